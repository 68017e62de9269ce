package shadow

import (
	"quire/api"
	"quire/disk"
	"quire/pages"
	"quire/sum"
)

const (
	// The sectors of the two roots.
	firstRoot  = 0
	secondRoot = 4

	// rootPages is how many pages are kept for roots, from page 0 on.
	rootPages = 2

	// nowhere stands for no page: no table and no data goes to page 0.
	nowhere = 0

	// Where the parts of a root begin.
	epochAt = 0
	firstAt = 8
	countAt = 12
	zerosAt = 16
	againAt = 24

	nextSize  = 4 // bytes of a table page ahead of its part of the table
	tableRoom = api.MaxData - nextSize
	tableID   = 2
)

// dataID answers the id of a page with the data of the logical page i.
func dataID(i int) uint32 {
	return 3 + 256*uint32(i)
}

// root is a root whose two epochs are the same.
type root struct {
	epoch        uint64
	first, count uint32 // of its table pages
}

func (r root) bytes() []byte {
	b := make([]byte, api.SectorSize)
	lay(b[epochAt:firstAt], r.epoch)
	lay(b[firstAt:countAt], uint64(r.first))
	lay(b[countAt:zerosAt], uint64(r.count))
	lay(b[againAt:], r.epoch)
	return b
}

// readRoot answers the root at that sector. It asks not what the root names.
func readRoot(d *disk.Disk, sector int) (r root, ok bool) {
	b, e := d.Read(sector)
	if e != api.OK {
		return root{}, false
	}
	r = root{
		epoch: number(b[epochAt:firstAt]),
		first: uint32(number(b[firstAt:countAt])),
		count: uint32(number(b[countAt:zerosAt])),
	}
	return r, r.epoch != 0 && number(b[zerosAt:againAt]) == 0 && number(b[againAt:]) == r.epoch
}

// loader reads what a root names, and refuses a page that was named already.
type loader struct {
	d     *disk.Disk
	named []bool
}

// load answers the store as the root at that sector has it; nil, if that root does not count.
func load(d *disk.Disk, sector int) *Store {
	r, ok := readRoot(d, sector)
	if !ok {
		return nil
	}
	size := pages.Count(d)
	l := loader{d: d, named: taken(size)}
	tables, table, ok := l.tables(r.first)
	if !ok || uint64(len(tables)) != uint64(r.count) {
		return nil
	}
	m, ok := l.pages(table)
	if !ok {
		return nil
	}
	s := &Store{d: d, size: size, epoch: r.epoch, sector: sector, tables: tables}
	s.take(m)
	return s
}

// taken tells of each of so many pages whether it is kept for roots.
func taken(size int) []bool {
	used := make([]bool, size)
	for i := range rootPages {
		used[i] = true
	}
	return used
}

// tables answers the table pages from the page next on, and their parts of the table as one. The chain ends, even one that bites its tail, as no page is named twice.
func (l *loader) tables(next uint32) (at []int, table []byte, ok bool) {
	for next != nowhere {
		data, ok := l.read(uint64(next), tableID)
		if !ok || len(data) < nextSize {
			return nil, nil, false
		}
		at = append(at, int(next))
		table = append(table, data[nextSize:]...)
		next = uint32(number(data[:nextSize]))
	}
	return at, table, true
}

// pages answers the logical pages that the table names.
func (l *loader) pages(table []byte) (m map[int]page, ok bool) {
	m = map[int]page{}
	least := uint64(0)
	for at := 0; at < len(table); {
		i, behind, e := sum.Read(table, at)
		if e != api.OK || i < least || i >= api.MaxLogical {
			return nil, false
		}
		p, end, e := sum.Read(table, behind)
		if e != api.OK {
			return nil, false
		}
		data, ok := l.read(p, dataID(int(i)))
		if !ok {
			return nil, false
		}
		m[int(i)] = page{at: int(p), data: data}
		least, at = i+1, end
	}
	return m, true
}

// read answers the data of the page p, if it has that id and was not named yet.
func (l *loader) read(p uint64, id uint32) (data []byte, ok bool) {
	if p >= uint64(len(l.named)) || l.named[p] {
		return nil, false
	}
	l.named[p] = true
	found, data, e := pages.Read(l.d, int(p))
	if e != api.OK || found != id {
		return nil, false
	}
	return data, true
}

// number answers the number that b is, the lowest byte first.
func number(b []byte) uint64 {
	n := uint64(0)
	for i, c := range b {
		n |= uint64(c) << (8 * i)
	}
	return n
}

// lay makes b that number, the lowest byte first.
func lay(b []byte, n uint64) {
	for i := range b {
		b[i] = byte(n >> (8 * i))
	}
}
