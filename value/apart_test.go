package value_test

import (
	"testing"

	"quire/api"
	"quire/value"
)

// P8.3, R4: a copy of a list shares no list with anything, however many there are

// memory is the places of all parts that a list reaches, those of spare room as well.
type memory struct {
	values map[*api.Value]int // with how many of the list's parts stand from there on
	items  map[*api.Item]int
	todo   []api.Value
}

// memoryOf goes through each list once, be it within itself or not.
func memoryOf(list []api.Value) *memory {
	m := &memory{values: map[*api.Value]int{}, items: map[*api.Item]int{}, todo: values(api.List{Items: list})}
	for len(m.todo) > 0 {
		v := m.todo[len(m.todo)-1]
		m.todo = m.todo[:len(m.todo)-1]
		switch x := v.(type) {
		case api.List:
			for _, at := range gather(m.values, x.Items) {
				m.todo = append(m.todo, *at)
			}
		case api.Quot:
			for _, at := range gather(m.items, x.Items) {
				if p, ok := (*at).(api.Push); ok {
					m.todo = append(m.todo, p.V)
				}
			}
		}
	}
	return m
}

// gather puts the places of a list's parts to others, and answers those of its parts that were not gone through yet.
func gather[T any](seen map[*T]int, list []T) (news []*T) {
	for i := range list {
		left := len(list) - i
		if seen[&list[i]] >= left {
			break
		}
		if seen[&list[i]] == 0 {
			news = append(news, &list[i])
		}
		seen[&list[i]] = left
	}
	spare := list[len(list):cap(list)]
	for i := range spare {
		seen[&spare[i]] += 0
	}
	return news
}

func (m *memory) parts() int { return len(m.values) + len(m.items) }

// apart holds that a copy of a list shares no place with it, and answers the copy.
func apart(t *testing.T, list []api.Value) []api.Value {
	t.Helper()
	before := memoryOf(list)
	got := value.MustList(api.List{Items: list})
	if len(got) != len(list) {
		t.Fatalf("MustList of %d values: %d", len(list), len(got))
	}
	after := memoryOf(got)
	for at := range after.values {
		if _, ok := before.values[at]; ok {
			t.Fatalf("a list of the copy is one that was handed in")
		}
	}
	for at := range after.items {
		if _, ok := before.items[at]; ok {
			t.Fatalf("a quotation of the copy is one that was handed in")
		}
	}
	return got
}

func TestVeryManyLists(t *testing.T) {
	for _, n := range []int{1, 65535, 65536, 65537, 100000} {
		var all []api.Value
		for i := range n {
			one := []api.Value{list(num(int64(i))), quot(push(num(int64(i))), call("a")), list(quot(push(list(num(int64(i))))))}
			all = append(all, one[i%len(one)])
		}
		got := apart(t, all)
		for i, v := range got {
			if same, e := value.Equal(v, all[i]); !same || e != api.OK {
				t.Fatalf("value %d of %d: %s, want %s", i, n, tell(v), tell(all[i]))
			}
		}
	}
}

// One list that stands there very often is as many lists in the copy.
func TestOneListVeryOften(t *testing.T) {
	for _, n := range []int{2, 65536, 65537, 100000} {
		inner := list(num(-1), quot(call("a"), push(num(-1))))
		got := apart(t, alike(n, inner))
		for i, v := range got {
			v.(api.List).Items[0] = num(int64(i))
			v.(api.List).Items[1].(api.Quot).Items[1] = push(num(int64(i)))
		}
		for i, v := range got {
			want := list(num(int64(i)), quot(call("a"), push(num(int64(i)))))
			if same, e := value.Equal(v, want); !same || e != api.OK {
				t.Fatalf("value %d of %d: %s, want %s", i, n, tell(v), tell(want))
			}
		}
		if tell(inner) != tell(list(num(-1), quot(call("a"), push(num(-1))))) {
			t.Errorf("what was handed in has changed: %s", tell(inner))
		}
	}
}

// doubled answers a list of one list twice, which is one of another twice, and so on.
func doubled(deep int) api.Value {
	v := list()
	for i := range deep {
		if i%2 == 0 {
			v = quot(push(v), push(v))
		} else {
			v = list(v, v)
		}
	}
	return v
}

func TestListsTwiceOverAndOver(t *testing.T) {
	for _, deep := range []int{1, 2, 3, 10, 16, 18} {
		got := apart(t, values(doubled(deep)))
		want := 1<<(deep+1) - 1
		if n := memoryOf(got).parts(); n != want {
			t.Errorf("the copy of lists twice, %d times over, has %d places, want %d", deep, n, want)
		}
		if n := scribble(api.List{Items: got}); n != want {
			t.Errorf("the copy of lists twice, %d times over, has %d parts, want %d", deep, n, want)
		}
	}
}

// Parts of one list may be lists, too, which lie over one another in memory.
func TestListsThatOverlap(t *testing.T) {
	all := values(num(1), num(2), num(3), num(4), num(5))
	pieces := values(api.List{Items: all[:3]}, api.List{Items: all[1:4]}, api.List{Items: all[:2]}, api.List{Items: all[2:2]}, api.List{Items: all})
	got := apart(t, pieces)
	if tell(api.List{Items: got}) != tell(api.List{Items: pieces}) {
		t.Errorf("MustList: %s", tell(api.List{Items: got}))
	}
	if n := memoryOf(got).parts(); n != 5+3+3+2+5 {
		t.Errorf("the copy has %d places", n)
	}
}

// Spare room is not copied, nor shared, be there something ahead of it or not.
func TestSpareRoomOfManyLists(t *testing.T) {
	var all []api.Value
	for i := range 70000 {
		room := append(make([]api.Value, 0, 4), num(1), num(2))
		all = append(all, api.List{Items: room[: i%3 : 4]}, api.Quot{Items: make([]api.Item, 0, 2)})
		if i%3 == 2 {
			room[:3][2] = list(num(3))
		}
	}
	for i, v := range apart(t, all) {
		if tell(v) != tell(all[i]) {
			t.Fatalf("value %d: %s, want %s", i, tell(v), tell(all[i]))
		}
	}
}

func TestDeepLists(t *testing.T) {
	for _, deep := range []int{65535, 65536, 65537, 1 << 18} {
		got := apart(t, values(nested(deep, num(7))))
		v, n := got[0], 0
		for ; len(parts(v)) == 1; n++ {
			v = parts(v)[0]
		}
		if n != deep || v != num(7) {
			t.Errorf("MustList of %d lists within one another: %d", deep, n)
		}
	}
}

// Lists that hold themselves have no end, and the copy holds itself in the same way.

func TestListsThatHoldThemselves(t *testing.T) {
	for _, wide := range []int{1, 2, 3, 1000, 1 << 17} {
		round := make([]api.Value, wide)
		for i := range round {
			round[i] = api.List{Items: round}
		}
		got := apart(t, round)
		v := got[wide-1]
		for i := range 3 * wide {
			if len(v.(api.List).Items) != wide {
				t.Fatalf("list %d further down has %d values, want %d", i, len(v.(api.List).Items), wide)
			}
			v = v.(api.List).Items[i%wide]
		}
		if n := memoryOf(got).parts(); n != wide {
			t.Errorf("the copy has %d places, want %d", n, wide)
		}
		got[0] = num(1)
		if _, ok := round[0].(api.List); !ok {
			t.Errorf("what was handed in has changed")
		}
	}
}

func TestListsThatHoldOneAnother(t *testing.T) {
	const many = 300
	all := make([][]api.Value, many)
	for i := range all {
		all[i] = make([]api.Value, many)
	}
	for i := range all {
		for k := range all[i] {
			all[i][k] = quot(call("a"), push(api.List{Items: all[k]}), push(num(int64(k))))
		}
	}
	got := apart(t, all[0])
	for k, v := range got {
		inner := v.(api.Quot).Items
		if inner[0] != call("a") || len(inner[1].(api.Push).V.(api.List).Items) != many || inner[2] != push(num(int64(k))) {
			t.Errorf("value %d is another", k)
		}
	}
	if n := memoryOf(got).parts(); n != many*many*4 {
		t.Errorf("the copy has %d places, want %d", n, many*many*4)
	}
}

// What has no end may lie within what is found once alone.
func TestWhatHasNoEndWithin(t *testing.T) {
	round := values(num(1), nil, num(2))
	round[1] = api.List{Items: round}
	code := items(call("a"), nil)
	code[1] = push(api.Quot{Items: code})
	all := values(num(1), list(api.List{Items: round}, str("a")), quot(push(api.Quot{Items: code})), list())
	got := apart(t, all)
	v := got[1].(api.List).Items[0]
	w := got[2].(api.Quot).Items[0].(api.Push).V
	for range 1000 {
		if v.(api.List).Items[0] != num(1) || v.(api.List).Items[2] != num(2) || w.(api.Quot).Items[0] != call("a") {
			t.Fatalf("the copy is another")
		}
		v = v.(api.List).Items[1]
		w = w.(api.Quot).Items[1].(api.Push).V
	}
	if got[0] != num(1) || got[1].(api.List).Items[1] != str("a") || len(got[3].(api.List).Items) != 0 {
		t.Errorf("the copy is another")
	}
}

// Lists beyond all that an answer may hold share none with what was handed in either.
func TestListsBeyondAllBounds(t *testing.T) {
	for _, deep := range []int{28, 31, 60, 64, 5000, 100000} {
		v := apart(t, values(doubled(deep)))[0]
		for i := range deep {
			if len(parts(v)) != 2 {
				t.Fatalf("list %d further down has %d parts", i, len(parts(v)))
			}
			v = parts(v)[i/2%2]
		}
		if tell(v) != tell(list()) {
			t.Errorf("the last list: %s", tell(v))
		}
	}
}
