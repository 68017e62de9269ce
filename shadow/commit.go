package shadow

import (
	"maps"
	"slices"

	"quire/api"
	"quire/disk"
	"quire/pages"
	"quire/sum"
)

// plan is what a commit would write beside the root.
type plan struct {
	fresh []int        // the logical pages that were put, rising
	laid  map[int]page // all logical pages, with those put where they go
	table []byte       // the bytes of all table pages
}

// plan answers what a commit would write, with the pages that are free for it. Where data and tables together have no room, the last page of the disk stands for each page that was put: such a plan is only counted.
func (s *Store) plan() plan {
	fresh := s.fresh()
	if at, e := pages.First(s.used(), len(fresh)); e == api.OK {
		if p := s.planAt(fresh, at); p.need() <= s.free() {
			return p
		}
	}
	return s.planAt(fresh, slices.Repeat([]int{s.size - 1}, len(fresh)))
}

// fresh answers the logical pages that were put since the last commit, rising.
func (s *Store) fresh() []int {
	var fresh []int
	for i := range s.Pages() {
		if s.now[i].at == nowhere {
			fresh = append(fresh, i)
		}
	}
	return fresh
}

// planAt answers the plan in which the fresh logical pages go to the pages at.
func (s *Store) planAt(fresh, at []int) plan {
	p := plan{fresh: fresh, laid: maps.Clone(s.now)}
	for k, i := range fresh {
		p.laid[i] = page{at: at[k], data: s.now[i].data}
	}
	for i := range s.Pages() {
		p.table = append(p.table, sum.Number(uint64(i))...)
		p.table = append(p.table, sum.Number(uint64(p.laid[i].at))...)
	}
	return p
}

// need answers how many pages a commit would write beside the root.
func (p plan) need() int {
	return len(p.fresh) + (len(p.table)+tableRoom-1)/tableRoom
}

// write lays all of p down ahead of the root, so that no crash can leave the root without what it names.
func (s *Store) write(p plan, tables []int) api.Errno {
	for _, i := range p.fresh {
		if e := pages.Write(s.d, p.laid[i].at, dataID(i), p.laid[i].data); e != api.OK {
			return e
		}
	}
	if e := writeTables(s.d, p.table, tables); e != api.OK {
		return e
	}
	if e := s.d.Barrier(); e != api.OK {
		return e
	}
	r := root{epoch: s.epoch + 1, first: head(tables), count: uint32(len(tables))}
	return keep(s.d, s.other(), r.bytes())
}

// writeTables writes the bytes of the tables to the pages at, each of which names the next.
func writeTables(d *disk.Disk, table []byte, at []int) api.Errno {
	for part := range slices.Chunk(table, tableRoom) {
		here, rest := at[0], at[1:]
		data := make([]byte, nextSize, api.MaxData)
		lay(data, uint64(head(rest)))
		if e := pages.Write(d, here, tableID, append(data, part...)); e != api.OK {
			return e
		}
		at = rest
	}
	return api.OK
}

// head answers the page with which a chain of table pages begins.
func head(tables []int) uint32 {
	if len(tables) == 0 {
		return nowhere
	}
	return uint32(tables[0])
}

// keep writes a sector, and answers OK only when no crash can lose it any more.
func keep(d *disk.Disk, sector int, b []byte) api.Errno {
	if e := d.Write(sector, b); e != api.OK {
		return e
	}
	return d.Barrier()
}
