package store

import (
	"aumbry/api"
	"aumbry/octet"
	"aumbry/record"
	"aumbry/slots"
	"aumbry/table"
)

// loading is what is known of a space's pages while it is asked whether it is a store.
type loading struct {
	store *Store
	rows  map[int]bool         // pages of rows
	pages map[int][]byte       // pages of slots
	taken map[int]map[int]bool // of each of these, the slots that are some object's
}

// load tells ErrCorrupt, unless the space is a store; the roots and the rooms are found.
func (s *Store) load() api.Errno {
	l := &loading{s, map[int]bool{}, map[int][]byte{}, map[int]map[int]bool{}}
	for _, do := range []func() api.Errno{l.roots, l.objects, l.leftOver, s.whole} {
		switch e := do(); e {
		case api.OK:
		case api.ErrPower:
			return e
		default:
			return api.ErrCorrupt
		}
	}
	s.now.rooms = map[int]int{}
	for page, b := range l.pages {
		s.now.rooms[page] = slots.Room(b)
	}
	return api.OK
}

// roots reads the roots' row.
func (l *loading) roots() api.Errno {
	meta := l.store.space.Meta()
	if len(meta) == 0 {
		return api.OK
	}
	first, e := octet.Get(meta, 0, 2)
	if e != api.OK || len(meta) != 2 {
		return api.ErrCorrupt
	}
	b, row, e := l.row(int(first))
	if e != api.OK {
		return e
	}
	roots, ok := readRoots(b)
	if !ok {
		return api.ErrCorrupt
	}
	l.store.now.roots, l.store.now.row = roots, row
	return api.OK
}

// row reads a row, none of whose pages may be in another one.
func (l *loading) row(first int) ([]byte, []int, api.Errno) {
	b, row, e := l.store.readRow(first)
	if e != api.OK {
		return nil, nil, e
	}
	for _, page := range row {
		if page < table.Pages || l.rows[page] {
			return nil, nil, api.ErrCorrupt
		}
		l.rows[page] = true
	}
	return b, row, api.OK
}

// objects reads all records.
func (l *loading) objects() api.Errno {
	for _, oid := range l.store.table.Oids() {
		page, slot, _ := l.store.table.Get(oid)
		rec, e := l.record(page, slot)
		if e != api.OK {
			return e
		}
		if _, e := record.Read(rec); e != api.OK {
			return e
		}
		if (len(rec) > slotMost) != (slot == table.Long) {
			return api.ErrCorrupt
		}
	}
	return api.OK
}

// record reads a record, whose place may be no other's.
func (l *loading) record(page, slot int) ([]byte, api.Errno) {
	if slot == table.Long {
		rec, _, e := l.row(page)
		return rec, e
	}
	b, ok := l.pages[page]
	if !ok {
		var e api.Errno
		if b, e = l.store.space.Read(page); e != api.OK {
			return nil, e
		}
		l.pages[page], l.taken[page] = b, map[int]bool{}
	}
	rec, ok := slots.Get(b, slot)
	if !ok || l.taken[page][slot] {
		return nil, api.ErrCorrupt
	}
	l.taken[page][slot] = true
	return rec, api.OK
}

// leftOver asks whether each page is of one use, and each slot some object's.
func (l *loading) leftOver() api.Errno {
	for _, page := range l.store.space.Pages() {
		if page < table.Pages {
			continue
		}
		b, ok := l.pages[page]
		if ok == l.rows[page] || ok && len(slots.Slots(b)) != len(l.taken[page]) {
			return api.ErrCorrupt
		}
	}
	return api.OK
}
