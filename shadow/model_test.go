package shadow_test

import (
	"bytes"
	"encoding/binary"
	"maps"
	"math/rand"
	"slices"
	"testing"

	"quire/api"
	"quire/shadow"
)

// model is a store by another hand: it has the whole disk as bytes.
type model struct {
	image  []byte
	epoch  uint64
	sector int
	kept   map[int][]byte
	at     map[int]int // of what is kept
	tables []int
	now    map[int][]byte
	put    map[int]bool
}

func newModel(image []byte) *model {
	m := &model{image: bytes.Clone(image), epoch: 1, kept: map[int][]byte{}, at: map[int]int{}, now: map[int][]byte{}, put: map[int]bool{}}
	copy(m.image, rootOf(1, 0, 0))
	clear(m.image[4*api.SectorSize : 5*api.SectorSize])
	return m
}

func (m *model) free() []int {
	var free []int
	for p := 2; p < len(m.image)/api.PageSize; p++ {
		if !slices.Contains(m.tables, p) && !slices.Contains(slices.Collect(maps.Values(m.at)), p) {
			free = append(free, p)
		}
	}
	return free
}

// lay is where each logical page would be, which of them are put, and the table's bytes: the k-th that is put goes where place says.
func (m *model) lay(place func(k int) int) (at map[int]int, puts []int, table []byte) {
	at = map[int]int{}
	for _, i := range slices.Sorted(maps.Keys(m.now)) {
		at[i] = m.at[i]
		if m.put[i] {
			at[i] = place(len(puts))
			puts = append(puts, i)
		}
		table = binary.AppendUvarint(table, uint64(i))
		table = binary.AppendUvarint(table, uint64(at[i]))
	}
	return at, puts, table
}

// lowest tells the k-th page that is free, or the last one where there are not so many.
func (m *model) lowest() func(k int) int {
	free := m.free()
	return func(k int) int {
		if k < len(free) {
			return free[k]
		}
		return m.last(k)
	}
}

func (m *model) last(int) int {
	return len(m.image)/api.PageSize - 1
}

func (m *model) room() (free, need int) {
	free = len(m.free())
	for _, place := range []func(int) int{m.lowest(), m.last} {
		_, puts, table := m.lay(place)
		need = len(puts)
		for size := 0; size < len(table); size += 112 {
			need++
		}
		if need <= free {
			break
		}
	}
	return free, need
}

func (m *model) commit(t *testing.T) api.Errno {
	free, need := m.room()
	if need > free {
		return api.ErrFull
	}
	at, puts, table := m.lay(m.lowest())
	tables := m.free()[len(puts):need]
	for _, i := range puts {
		m.page(t, at[i], uint32(3+256*i), m.now[i])
	}
	for k, p := range tables {
		next := 0
		if k+1 < len(tables) {
			next = tables[k+1]
		}
		part := table[112*k : min(112*k+112, len(table))]
		m.page(t, p, 2, append(tableOf(next), part...))
	}
	first := 0
	if len(tables) > 0 {
		first = tables[0]
	}
	m.epoch++
	m.sector = 4 - m.sector
	copy(m.image[m.sector*api.SectorSize:], rootOf(m.epoch, first, len(tables)))
	m.kept, m.at, m.tables = maps.Clone(m.now), at, tables
	m.put = map[int]bool{}
	return api.OK
}

func (m *model) page(t *testing.T, p int, id uint32, data []byte) {
	d := newDisk(t, 4)
	writePage(t, d, 0, id, data)
	copy(m.image[p*api.PageSize:], bytesOf(t, d))
}

func (m *model) rollback() {
	m.now, m.put = maps.Clone(m.kept), map[int]bool{}
}

// TestAgainstTheModel does the same to a store and to the model, by chance, and compares all there is to be seen.
func TestAgainstTheModel(t *testing.T) {
	for _, c := range []struct{ sectors, logical, steps int }{
		{12, 3, 200}, {23, 4, 400}, {40, 9, 800}, {4 * 60, 80, 300}, {4 * 135, 140, 250}, {4 * 300, api.MaxLogical, 80},
	} {
		r := rand.New(rand.NewSource(int64(c.sectors)))
		d := filled(t, c.sectors)
		m := newModel(bytesOf(t, d))
		s, e := shadow.Format(d)
		is(t, "Format", e, api.OK)
		full := 0
		for range c.steps {
			switch r.Intn(8) {
			default: // as many at a time as can fill the disk
				for range r.Intn(c.sectors/8 + 2) {
					modelPut(t, r, s, m, r.Intn(c.logical))
				}
			case 3, 4:
				for range r.Intn(c.sectors/8 + 2) {
					modelDrop(t, s, m, r.Intn(c.logical))
				}
			case 5:
				is(t, "Rollback", s.Rollback(), api.OK)
				m.rollback()
			case 6, 7:
				want := m.commit(t)
				is(t, "Commit", s.Commit(), want)
				if want == api.ErrFull {
					full++
				}
				if want == api.OK && r.Intn(3) == 0 {
					s = open(t, d)
				}
			}
			compare(t, s, m)
			if d.Pending() != 0 || !bytes.Equal(bytesOf(t, d), m.image) {
				t.Fatalf("%d sectors: the disk is not as the model has it", c.sectors)
			}
		}
		if full == 0 || m.epoch < 5 {
			t.Errorf("%d sectors: full %d times, epoch %d: too few to tell anything", c.sectors, full, m.epoch)
		}
	}
}

func modelPut(t *testing.T, r *rand.Rand, s *shadow.Store, m *model, i int) {
	t.Helper()
	data := all(r.Intn(api.MaxData+1), byte(r.Int()))
	is(t, "Put", s.Put(i, data), api.OK)
	m.now[i], m.put[i] = data, true
}

func modelDrop(t *testing.T, s *shadow.Store, m *model, i int) {
	t.Helper()
	want := api.OK
	if _, ok := m.now[i]; !ok {
		want = api.ErrNone
	}
	is(t, "Drop", s.Drop(i), want)
	delete(m.now, i)
	delete(m.put, i)
}

func compare(t *testing.T, s *shadow.Store, m *model) {
	t.Helper()
	epoch(t, s, m.epoch)
	free, need := m.room()
	room(t, s, free, need)
	has(t, s, m.now)
}
