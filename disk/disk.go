// Package disk is layer 1, a disk of sectors that may crash: see shared/doc/01-disk.md.
package disk

import (
	"slices"

	"quire/api"
)

// endless is the life of a disk that never dies.
const endless = -1

type sector [api.SectorSize]byte

// write is a write that is not yet kept. The sector holds what it wrote already; what stood there before goes with it, so that a crash can take it back.
type write struct {
	at            int
	before, after sector
}

// Disk is a disk of sectors; New makes one.
type Disk struct {
	sectors []sector
	pending []write
	life    int
}

// New answers a disk of so many sectors, all 0, without an end to its life.
func New(sectors int) (*Disk, api.Errno) {
	if sectors < 1 || sectors > api.MaxSectors {
		return nil, api.ErrArg
	}
	return &Disk{sectors: make([]sector, sectors), life: endless}, api.OK
}

// Len answers how many sectors there are.
func (d *Disk) Len() int {
	if d == nil {
		return 0
	}
	return len(d.sectors)
}

// Read answers the bytes that were written to the sector s last.
func (d *Disk) Read(s int) ([]byte, api.Errno) {
	if e := d.reach(s); e != api.OK {
		return nil, e
	}
	b := d.sectors[s]
	return b[:], api.OK
}

// Write writes b to the sector s; it is kept from the next barrier on.
func (d *Disk) Write(s int, b []byte) api.Errno {
	if len(b) != api.SectorSize {
		return api.ErrArg
	}
	if e := d.reach(s); e != api.OK {
		return e
	}
	w := write{at: s, before: d.sectors[s], after: sector(b)}
	d.sectors[s] = w.after
	d.pending = append(d.pending, w)
	d.age()
	return api.OK
}

// Barrier keeps all writes that are pending.
func (d *Disk) Barrier() api.Errno {
	if e := d.alive(); e != api.OK {
		return e
	}
	d.pending = nil
	d.age()
	return api.OK
}

// Pending answers how many writes are pending.
func (d *Disk) Pending() int {
	if d == nil {
		return 0
	}
	return len(d.pending)
}

// Live sets how many more writes and barriers are carried out; -1: without an end.
func (d *Disk) Live(n int) api.Errno {
	if d == nil || n < endless {
		return api.ErrArg
	}
	d.life = n
	return api.OK
}

// Crash loses the pending writes but for those that keep names; of the write number torn, just the first cut bytes stay. The disk lives again.
func (d *Disk) Crash(keep []bool, torn, cut int) api.Errno {
	if d == nil || cut < 0 || cut > api.SectorSize {
		return api.ErrArg
	}
	d.takeBack()
	for i, w := range d.pending {
		if i >= len(keep) || !keep[i] {
			continue
		}
		n := api.SectorSize
		if i == torn {
			n = cut
		}
		copy(d.sectors[w.at][:], w.after[:n])
	}
	d.pending = nil
	d.life = endless
	return api.OK
}

// Copy answers a disk of its own that is the same.
func (d *Disk) Copy() *Disk {
	if d == nil {
		return nil
	}
	return &Disk{sectors: slices.Clone(d.sectors), pending: slices.Clone(d.pending), life: d.life}
}

func (d *Disk) alive() api.Errno {
	if d == nil {
		return api.ErrArg
	}
	if d.life == 0 {
		return api.ErrDead
	}
	return api.OK
}

// reach tells whether the sector s can be read and written now.
func (d *Disk) reach(s int) api.Errno {
	if e := d.alive(); e != api.OK {
		return e
	}
	if s < 0 || s >= len(d.sectors) {
		return api.ErrRange
	}
	return api.OK
}

func (d *Disk) age() {
	if d.life != endless {
		d.life--
	}
}

// takeBack goes from the last pending write to the first, so that of several to one sector the oldest bytes are left.
func (d *Disk) takeBack() {
	for _, w := range slices.Backward(d.pending) {
		d.sectors[w.at] = w.before
	}
}
