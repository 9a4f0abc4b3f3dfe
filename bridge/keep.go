package bridge

import (
	"aumbry/api"
	"aumbry/heap"
	"aumbry/record"
	"aumbry/store"
)

// keeper is at work on a commit.
type keeper struct {
	heap  *heap.Heap
	store *store.Store
	dirty map[int]bool // the handles of what is dirty
	seen  map[int]bool // the oids that were come to
	made  []int        // the handles of what is to be made, in order
	oids  map[int]int  // of each of these its oid
	again []int        // the handles of what is to be made anew
}

// all does what a commit does, up to the store's.
func (k *keeper) all(l []Want) api.Errno {
	for _, do := range []func([]Want) api.Errno{k.reach, k.make, k.set} {
		if e := do(l); e != api.OK {
			return e
		}
	}
	return k.store.Commit()
}

// reach finds what roots lead to.
func (k *keeper) reach(l []Want) api.Errno {
	for _, handle := range k.heap.Dirty() {
		k.dirty[handle] = true
	}
	var lead func(words []api.Word, oids []int) api.Errno
	lead = func(words []api.Word, oids []int) api.Errno {
		for _, w := range words {
			if w.Kind != api.WordOid {
				continue
			}
			if oid, ok := k.heap.Oid(int(w.Num)); ok {
				oids = append(oids, oid)
				continue
			}
			more, e := k.untied(int(w.Num))
			if e != api.OK {
				return e
			}
			if e := lead(more, nil); e != api.OK {
				return e
			}
		}
		for _, oid := range oids {
			more, kept, e := k.tied(oid)
			if e != api.OK {
				return e
			}
			if e := lead(more, kept); e != api.OK {
				return e
			}
		}
		return api.OK
	}
	var oids []int
	for _, r := range k.store.Roots() {
		_, oid, _ := k.store.Root(r.Name)
		oids = append(oids, oid)
	}
	var words []api.Word
	for _, w := range l {
		words = append(words, w.Word)
	}
	return lead(words, oids)
}

// untied notes an object that is not tied, and tells its words; none, if it was noted already.
func (k *keeper) untied(handle int) ([]api.Word, api.Errno) {
	o, ok := k.heap.Get(handle)
	if !ok {
		return nil, api.ErrNone
	}
	if _, had := k.oids[handle]; had {
		return nil, api.OK
	}
	if len(k.made) == api.MaxOids {
		return nil, api.ErrFull
	}
	k.oids[handle] = 0
	k.made = append(k.made, handle)
	return o.Words, api.OK
}

// tied notes an object that is kept, and tells its words in the heap, or, if it is not there, to what it leads in the store.
func (k *keeper) tied(oid int) ([]api.Word, []int, api.Errno) {
	if k.seen[oid] {
		return nil, nil, api.OK
	}
	k.seen[oid] = true
	if handle, ok := k.heap.Of(oid); ok {
		if o, _ := k.heap.Get(handle); o.Kind != api.ObjStub {
			if k.dirty[handle] {
				k.again = append(k.again, handle)
			}
			return o.Words, nil, api.OK
		}
	}
	o, e := k.store.Read(oid)
	return nil, record.Oids(o), e
}

// out is a word of the heap, as the store has it.
func (k *keeper) out(w api.Word) api.Word {
	if w.Kind != api.WordOid {
		return w
	}
	oid, ok := k.heap.Oid(int(w.Num))
	if !ok {
		oid = k.oids[int(w.Num)]
	}
	return api.Word{Kind: api.WordOid, Num: int64(oid)}
}

// object is an object of the heap, as the store has it.
func (k *keeper) object(handle int) api.Object {
	o, _ := k.heap.Get(handle)
	for i, w := range o.Words {
		o.Words[i] = k.out(w)
	}
	return o
}

// make makes, and makes anew, what is to be kept. Objects may lead to one another in a ring, so
// their oids are known ahead: the store gives the lowest ones that are free.
func (k *keeper) make([]Want) api.Errno {
	taken := k.store.Oids()
	next := 1
	for _, handle := range k.made {
		for len(taken) > 0 && taken[0] == next {
			taken = taken[1:]
			next++
		}
		if next > api.MaxOids {
			return api.ErrFull
		}
		k.oids[handle] = next
		next++
	}
	for _, handle := range k.made {
		oid, e := k.store.Alloc(k.object(handle))
		if e != api.OK {
			return e
		}
		if oid != k.oids[handle] {
			return api.ErrCorrupt
		}
	}
	for _, handle := range k.again {
		oid, _ := k.heap.Oid(handle)
		if e := k.store.Update(oid, k.object(handle)); e != api.OK {
			return e
		}
	}
	return api.OK
}

// set makes each wanted root be an object of its own.
func (k *keeper) set(l []Want) api.Errno {
	for _, w := range l {
		oid, e := k.store.Alloc(api.Object{Kind: api.ObjArray, Words: []api.Word{k.out(w.Word)}})
		if e != api.OK {
			return e
		}
		if e := k.store.SetRoot(w.Name, w.Stamp, oid); e != api.OK {
			return e
		}
	}
	return api.OK
}

// settle ties what was made, and cleans what was made anew.
func (k *keeper) settle() {
	for _, handle := range k.made {
		k.heap.Tie(handle, k.oids[handle])
	}
	for _, handle := range k.again {
		k.heap.Clean(handle)
	}
}
