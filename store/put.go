package store

import (
	"aumbry/api"
	"aumbry/octet"
	"aumbry/slots"
	"aumbry/table"
)

// Where records stand.
const (
	slotMost = 246 // bytes of the longest record that stands in a slot
	rowEach  = 246 // bytes of a record in a page of a row
	linkSize = 2
)

// pagesOf tells how many pages bytes in a row take.
func pagesOf(b []byte) int { return (len(b) + rowEach - 1) / rowEach }

// freePages lists the pages that the space does not have, rising.
func (s *Store) freePages() []int {
	var l []int
	has := s.space.Pages()
	for page := table.Pages; page < api.MaxPages; page++ {
		for len(has) > 0 && has[0] < page {
			has = has[1:]
		}
		if len(has) == 0 || has[0] != page {
			l = append(l, page)
		}
	}
	return l
}

// fits tells whether there is room for a record, and for more pages beside.
func (s *Store) fits(rec []byte, more int) api.Errno {
	n := pagesOf(rec)
	if len(s.freePages()) < n || s.space.Room() < n+more {
		return api.ErrFull
	}
	return api.OK
}

// put makes a record stand somewhere, and tells where.
func (s *Store) put(rec []byte) (page, slot int, e api.Errno) {
	if len(rec) > slotMost {
		return s.putLong(rec)
	}
	for page := table.Pages; page < api.MaxPages; page++ {
		if room, ok := s.now.rooms[page]; ok && room >= len(rec) {
			slot, e := s.putInto(page, rec)
			return page, slot, e
		}
	}
	return s.putAlone(rec)
}

// putAlone makes a record the only one of the lowest free page.
func (s *Store) putAlone(rec []byte) (page, slot int, e api.Errno) {
	free := s.freePages()
	if len(free) == 0 {
		return 0, 0, api.ErrFull
	}
	b, slot, _ := slots.Put(slots.Empty(), rec)
	return free[0], slot, s.writeSlots(free[0], b)
}

// putInto adds a record to a page that has room for it.
func (s *Store) putInto(page int, rec []byte) (int, api.Errno) {
	b, e := s.space.Read(page)
	if e != api.OK {
		return 0, e
	}
	b, slot, ok := slots.Put(b, rec)
	if !ok {
		return 0, api.ErrFull
	}
	return slot, s.writeSlots(page, b)
}

// writeSlots writes a page of slots.
func (s *Store) writeSlots(page int, b []byte) api.Errno {
	e := s.space.Write(page, b)
	if e == api.OK {
		s.now.rooms[page] = slots.Room(b)
	}
	return e
}

// putLong makes a record that is too long for a slot stand in a row.
func (s *Store) putLong(rec []byte) (page, slot int, e api.Errno) {
	row, e := s.putRow(rec)
	if e != api.OK {
		return 0, 0, e
	}
	return row[0], table.Long, api.OK
}

// putRow writes bytes, one at least, into the lowest free pages, and tells which.
func (s *Store) putRow(b []byte) ([]int, api.Errno) {
	n := pagesOf(b)
	row := s.freePages()
	if len(row) < n {
		return nil, api.ErrFull
	}
	row = row[:n]
	for i, page := range row {
		next := 0
		if i+1 < n {
			next = row[i+1]
		}
		part := b[i*rowEach : min(len(b), (i+1)*rowEach)]
		if e := s.space.Write(page, append(octet.Put(nil, uint64(next), linkSize), part...)); e != api.OK {
			return nil, e
		}
	}
	return row, api.OK
}

// readRow tells the bytes of a row, and its pages.
func (s *Store) readRow(page int) (rec []byte, row []int, e api.Errno) {
	for page != 0 {
		b, e := s.space.Read(page)
		if e != api.OK {
			return nil, nil, e
		}
		next, short := octet.Get(b, 0, linkSize)
		last := next == 0
		if short != api.OK || len(b) == linkSize || !last && len(b) != linkSize+rowEach || len(b) > linkSize+rowEach || len(row) >= api.MaxPages {
			return nil, nil, api.ErrCorrupt
		}
		rec = append(rec, b[linkSize:]...)
		row = append(row, page)
		page = int(next)
	}
	return rec, row, api.OK
}

// record tells an object's bytes.
func (s *Store) record(oid int) ([]byte, api.Errno) {
	page, slot, ok := s.table.Get(oid)
	if !ok {
		return nil, api.ErrNone
	}
	if slot == table.Long {
		rec, _, e := s.readRow(page)
		return rec, e
	}
	b, e := s.space.Read(page)
	if e != api.OK {
		return nil, e
	}
	rec, ok := slots.Get(b, slot)
	if !ok {
		return nil, api.ErrCorrupt
	}
	return rec, api.OK
}

// takeAway lets the record go that stands somewhere.
func (s *Store) takeAway(page, slot int) api.Errno {
	if slot == table.Long {
		_, row, e := s.readRow(page)
		if e != api.OK {
			return e
		}
		return s.dropAll(row)
	}
	b, e := s.space.Read(page)
	if e != api.OK {
		return e
	}
	b, ok := slots.Drop(b, slot)
	if !ok {
		return api.ErrCorrupt
	}
	if len(slots.Slots(b)) > 0 {
		return s.writeSlots(page, b)
	}
	delete(s.now.rooms, page)
	return s.space.Drop(page)
}

// dropAll lets pages go.
func (s *Store) dropAll(row []int) api.Errno {
	for _, page := range row {
		if e := s.space.Drop(page); e != api.OK {
			return e
		}
	}
	return api.OK
}
