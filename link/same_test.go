package link_test

import (
	"testing"

	"quire/api"
	"quire/link"
)

// P18.1: Same

// sound answers lists of sound codes, no two of which are the same.
func sound() [][]api.Code {
	all := [][]api.Code{
		nil, known(), codes(known()[0], code("r", opPrim(0), opPrim(9))), codes(known()[0], known()[1], code("t1")),
		codes(code("a")), codes(code("b")), codes(code("A")), codes(code("aa")), codes(code("é")), codes(code("a"), code("b")), codes(code("a"), code("c")), codes(code("a"), code("b"), code("c")),
		codes(code("a", opPrim(0), opPrim(1))), codes(code("a", opPrim(1), opPrim(0))), codes(code("a", opPrim(0), opPrim(1), opPrim(1))), codes(code("a", opPrim(0)), code("b", opPrim(1))),
		codes(code("a"), code("b", opPrim(0))), codes(code("a", opPrim(0)), code("b")), codes(code("a", opCall(1)), code("b")), codes(code("a", opCall(0)), code("b")), codes(code("a", opPrim(1)), code("b")),
	}
	for _, op := range []api.Op{
		opPrim(0), opPrim(1), opPrim(50), opPrim(51), opCall(0),
		opPush(num(0)), opPush(num(1)), opPush(num(api.MaxInt)), opPush(num(api.MinInt)), opPush(api.Bool{}), opPush(api.Bool{B: true}), opPush(str("")), opPush(str("a")), opPush(str("0")),
		opPush(list()), opPush(list(num(1))), opPush(list(num(1), num(1))), opPush(list(list())), opPush(list(list(), list())),
		opPush(quot()), opPush(list(quot())), opPush(quot(push(quot()))), opPush(quot(push(num(1)))), opPush(quot(call("a"))), opPush(quot(call("b"))), opPush(quot(call("a"), call("b"))), opPush(list(quot(call("a")))), opPush(quot(call("dup"))),
	} {
		all = append(all, codes(code("a", op)))
	}
	return all
}

// unsound answers lists of codes that are not sound, each for a fault of another kind or at another place.
func unsound() [][]api.Code {
	all := [][]api.Code{
		make([]api.Code, 1), make([]api.Code, 2), codes(code("", ops()...)), codes(code("dup")), codes(code("swap")), codes(code("1")), codes(code("\"")),
		codes(code("b"), code("a")), codes(code("a"), code("a")), codes(code("a"), code("b"), code("b")), codes(code("a"), code("")), known()[:1], append(known(), api.Code{}),
	}
	for _, bad := range badOps() {
		all = append(all, codes(code("a", bad), code("b")), codes(code("a", opPrim(0)), code("b", opPush(num(1)), bad)))
	}
	return all
}

// sameAsUnsound holds that codes that are not sound are the same as others that are not, and as none that are.
func sameAsUnsound(t *testing.T, bad []api.Code) {
	t.Helper()
	for _, other := range [][]api.Code{bad, make([]api.Code, 1), codes(code("b"), code("a")), codes(code("a", opPrim(-1)))} {
		if !link.Same(bad, other) || !link.Same(other, bad) {
			t.Errorf("both are not sound, and not the same: %s and %s", short(tellCodes(bad)), tellCodes(other))
		}
	}
	for _, fine := range [][]api.Code{nil, known(), codes(code("a")), codes(code("a"), code("b"))} {
		if link.Same(bad, fine) || link.Same(fine, bad) {
			t.Errorf("one of both is sound, and they are the same: %s and %s", short(tellCodes(bad)), tellCodes(fine))
		}
	}
}

func TestSame(t *testing.T) {
	all, again := sound(), sound()
	for i := range all {
		if e := link.Check(all[i]); e != api.OK {
			t.Fatalf("Check of %s: %d", tellCodes(all[i]), e)
		}
		for j := range again {
			if got := link.Same(all[i], again[j]); got != (i == j) {
				t.Errorf("Same of %s and %s: %v", tellCodes(all[i]), tellCodes(again[j]), got)
			}
		}
	}
	// Lists without anything in them are the same, be they nil or not.
	if !link.Same(nil, codes()) || !link.Same(codes(code("a")), codes(code("a", ops()...))) ||
		!link.Same(codes(code("a", opPush(api.List{}), opPush(api.Quot{}))), codes(code("a", opPush(list([]api.Value{}...)), opPush(api.Quot{Items: items()})))) {
		t.Errorf("Same tells lists without anything in them apart")
	}
}

func TestSameOfWhatIsNotSound(t *testing.T) {
	all, again := unsound(), unsound()
	for _, bad := range all {
		if e := link.Check(bad); e != api.ErrForm {
			t.Fatalf("Check of %s: %d", short(tellCodes(bad)), e)
		}
		for _, other := range again {
			if !link.Same(bad, other) {
				t.Errorf("both are not sound, and not the same: %s and %s", short(tellCodes(bad)), short(tellCodes(other)))
			}
		}
		for _, fine := range sound() {
			if link.Same(bad, fine) || link.Same(fine, bad) {
				t.Errorf("one of both is sound, and they are the same: %s and %s", short(tellCodes(bad)), tellCodes(fine))
			}
		}
	}
}

// One operation of codes that are otherwise alike is not as it has to be: they are not the same as those that are sound.
func TestSameBesideAnOperationThatIsNotSound(t *testing.T) {
	for _, fine := range []api.Op{opPrim(0), opCall(0), opPush(num(1)), opPush(list())} {
		for _, change := range []func(op *api.Op){
			func(op *api.Op) { op.N = -1 },
			func(op *api.Op) { op.N = 52 },
			func(op *api.Op) { op.V = &api.Int{N: 1} },
			func(op *api.Op) { op.V = box(1) },
			func(op *api.Op) { op.V = list(nil) },
			func(op *api.Op) { op.Kind = 0 },
		} {
			op := fine
			change(&op)
			sameAsUnsound(t, codes(code("a", op)))
			if a, b := codes(code("a", op)), codes(code("a", fine)); link.Same(a, b) || link.Same(b, a) {
				t.Errorf("Same of %s and %s", tellCodes(a), tellCodes(b))
			}
		}
	}
}
