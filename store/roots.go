package store

import (
	"cmp"
	"slices"

	"aumbry/api"
	"aumbry/octet"
	"aumbry/record"
)

// root is a name, a stamp, and an object.
type root struct {
	name  string
	stamp string
	oid   int
}

// mayBe says whether a root may be, whether its object is there or not.
func (r root) mayBe() bool {
	return len(r.name) >= 1 && len(r.name) <= api.MaxName &&
		len(r.stamp) >= 1 && len(r.stamp) <= api.MaxStamp &&
		r.oid >= 1 && r.oid <= api.MaxOids
}

// find tells where a root stands, or would stand.
func (s *Store) find(name string) (int, bool) {
	return slices.BinarySearchFunc(s.now.roots, name, func(r root, name string) int { return cmp.Compare(r.name, name) })
}

// Root tells a root. (P12.3)
func (s *Store) Root(name string) (stamp string, oid int, ok bool) {
	if s == nil {
		return "", 0, false
	}
	at, ok := s.find(name)
	if !ok {
		return "", 0, false
	}
	return s.now.roots[at].stamp, s.now.roots[at].oid, true
}

// SetRoot makes a root be some object. (P12.3)
func (s *Store) SetRoot(name, stamp string, oid int) api.Errno {
	if e := s.refuses(); e != api.OK {
		return e
	}
	r := root{name, stamp, oid}
	if !r.mayBe() {
		return api.ErrArg
	}
	if _, _, ok := s.table.Get(oid); !ok {
		return api.ErrNone
	}
	at, ok := s.find(name)
	switch {
	case ok:
		s.now.roots[at] = r
	case len(s.now.roots) >= api.MaxRoots:
		return api.ErrFull
	default:
		s.now.roots = slices.Insert(s.now.roots, at, r)
	}
	s.now.set = true
	return s.turn(api.OK)
}

// Roots lists names and stamps, rising by names. (P12.3)
func (s *Store) Roots() []api.Stamped {
	if s == nil {
		return nil
	}
	var l []api.Stamped
	for _, r := range s.now.roots {
		l = append(l, api.Stamped{Name: r.name, Stamp: r.stamp})
	}
	return l
}

// rootBytes are the bytes of the roots' row.
func (s *Store) rootBytes() []byte {
	var b []byte
	for _, r := range s.now.roots {
		b = append(append(b, byte(len(r.name))), r.name...)
		b = append(append(b, byte(len(r.stamp))), r.stamp...)
		b = octet.Put(b, uint64(r.oid), 2)
	}
	return b
}

// readRoots tells the roots whose bytes they are; false: there are none such.
func readRoots(b []byte) ([]root, bool) {
	var l []root
	at := 0
	text := func() string {
		n, _ := octet.Get(b, at, 1)
		part, _ := octet.Cut(b, at+1, int(n))
		at += 1 + int(n)
		return string(part)
	}
	for at < len(b) {
		r := root{name: text(), stamp: text()}
		oid, _ := octet.Get(b, at, 2)
		r.oid = int(oid)
		at += 2
		if !r.mayBe() || len(l) >= api.MaxRoots || len(l) > 0 && l[len(l)-1].name >= r.name {
			return nil, false
		}
		l = append(l, r)
	}
	return l, len(l) > 0
}

// putRoots writes the roots' row anew, if they were set.
func (s *Store) putRoots() api.Errno {
	if !s.now.set {
		return api.OK
	}
	b := s.rootBytes()
	if e := s.fits(b, moreCommit); e != api.OK {
		return e
	}
	row, e := s.putRow(b)
	if e != api.OK {
		return e
	}
	old := s.now.row
	s.now.row = row
	return s.dropAll(old)
}

// whole tells ErrState, if a root leads to what is not there.
func (s *Store) whole() api.Errno {
	var list []int
	seen := map[int]bool{}
	lead := func(oid int) {
		if !seen[oid] {
			seen[oid] = true
			list = append(list, oid)
		}
	}
	for _, r := range s.now.roots {
		lead(r.oid)
	}
	for i := 0; i < len(list); i++ {
		if _, _, ok := s.table.Get(list[i]); !ok {
			return api.ErrState
		}
		rec, e := s.record(list[i])
		if e != api.OK {
			return e
		}
		o, e := record.Read(rec)
		if e != api.OK {
			return e
		}
		for _, oid := range record.Oids(o) {
			lead(oid)
		}
	}
	return api.OK
}
