package disk_test

import (
	"bytes"
	"math/rand"
	"slices"
	"testing"

	"quire/api"
	"quire/disk"
)

// model is the chapter's words as they stand: the sectors at the last barrier, the writes since, and the life.
type model struct {
	kept    [][]byte
	pending []modelWrite
	life    int
}

type modelWrite struct {
	at   int
	data []byte
}

func newModel(sectors int) *model {
	m := &model{life: -1}
	for range sectors {
		m.kept = append(m.kept, make([]byte, api.SectorSize))
	}
	return m
}

func (m *model) read(s int) ([]byte, api.Errno) {
	if m.life == 0 {
		return nil, api.ErrDead
	}
	if s < 0 || s >= len(m.kept) {
		return nil, api.ErrRange
	}
	b := m.kept[s]
	for _, w := range m.pending {
		if w.at == s {
			b = w.data
		}
	}
	return b, api.OK
}

func (m *model) write(s int, b []byte) api.Errno {
	if len(b) != api.SectorSize {
		return api.ErrArg
	}
	if _, e := m.read(s); e != api.OK {
		return e
	}
	m.pending = append(m.pending, modelWrite{s, b})
	m.spend()
	return api.OK
}

func (m *model) barrier() api.Errno {
	if m.life == 0 {
		return api.ErrDead
	}
	for _, w := range m.pending {
		m.kept[w.at] = w.data
	}
	m.pending = nil
	m.spend()
	return api.OK
}

func (m *model) spend() {
	if m.life > 0 {
		m.life--
	}
}

func (m *model) crash(keep []bool, torn, cut int) api.Errno {
	if cut < 0 || cut > api.SectorSize {
		return api.ErrArg
	}
	for i, w := range m.pending {
		if i >= len(keep) || !keep[i] {
			continue
		}
		data := w.data
		if i == torn {
			data = slices.Concat(w.data[:cut], m.kept[w.at][cut:])
		}
		m.kept[w.at] = data
	}
	m.pending = nil
	m.life = -1
	return api.OK
}

func (m *model) copy() *model {
	return &model{slices.Clone(m.kept), slices.Clone(m.pending), m.life}
}

// agree holds every answer of the disk that changes nothing against the model's.
func agree(t *testing.T, step int, d *disk.Disk, m *model) {
	t.Helper()
	if d.Len() != len(m.kept) || d.Pending() != len(m.pending) {
		t.Fatalf("step %d: Len %d, Pending %d; want %d, %d", step, d.Len(), d.Pending(), len(m.kept), len(m.pending))
	}
	for s := -1; s <= len(m.kept); s++ {
		b, e := d.Read(s)
		wantB, wantE := m.read(s)
		if e != wantE || !bytes.Equal(b, wantB) {
			t.Fatalf("step %d: Read(%d): %v, %d; want %v, %d", step, s, b, e, wantB, wantE)
		}
	}
}

func randomBytes(r *rand.Rand) []byte {
	n := api.SectorSize
	if r.Intn(20) == 0 {
		n = r.Intn(2 * api.SectorSize)
	}
	b := make([]byte, n)
	for i := range b {
		b[i] = byte(r.Intn(256))
	}
	return b
}

func randomFlags(r *rand.Rand, n int) []bool {
	keep := make([]bool, r.Intn(n+3))
	for i := range keep {
		keep[i] = r.Intn(2) == 0
	}
	return keep
}

// step carries out one call by chance on both and answers their errors.
func step(r *rand.Rand, d *disk.Disk, m *model) (got, want api.Errno) {
	switch k := r.Intn(40); {
	case k < 24:
		s, b := r.Intn(len(m.kept)+2)-1, randomBytes(r)
		return d.Write(s, b), m.write(s, b)
	case k < 30:
		return d.Barrier(), m.barrier()
	case k < 34:
		n := r.Intn(12) - 3
		if n < -1 {
			return d.Live(n), api.ErrArg
		}
		m.life = n
		return d.Live(n), api.OK
	default:
		keep := randomFlags(r, len(m.pending))
		torn, cut := r.Intn(len(m.pending)+3)-1, r.Intn(api.SectorSize+5)-2
		return d.Crash(keep, torn, cut), m.crash(keep, torn, cut)
	}
}

func TestDiskIsTheModel(t *testing.T) {
	for seed := range int64(60) {
		r := rand.New(rand.NewSource(seed))
		n := 1 + r.Intn(5)
		d, m := newDisk(t, n), newModel(n)
		oldD, oldM := d.Copy(), m.copy()
		for i := range 300 {
			if got, want := step(r, d, m); got != want {
				t.Fatalf("seed %d, step %d: error %d, want %d", seed, i, got, want)
			}
			agree(t, i, d, m)
			if r.Intn(10) == 0 { // go on with a copy, or with what was left behind
				d, oldD = oldD, d.Copy()
				m, oldM = oldM, m.copy()
			}
			agree(t, i, oldD, oldM)
		}
	}
}
