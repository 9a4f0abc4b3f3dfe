package vm

import "aumbry/api"

// step does the next instruction; false: it is not done.
func (v *Vm) step() (Stop, bool) {
	f := v.top()
	i := &v.funs[f.fun][f.at]
	switch i.Op {
	case api.OpInt:
		return v.done(0, api.Word{Kind: api.WordInt, Num: i.A})
	case api.OpLocal:
		return v.done(0, v.rows[f.foot+int(i.A)])
	case api.OpEnv:
		return v.done(0, v.caught[f.env+int(i.A)])
	case api.OpCall:
		return v.call()
	case api.OpRet:
		w := v.thing(0)
		v.rows = append(v.rows[:f.foot], w)
		v.caught = v.caught[:f.env]
		v.frames = v.frames[:len(v.frames)-1]
		return Stop{}, true
	case api.OpJump:
		f.at = int(i.A)
		return Stop{}, true
	case api.OpIf:
		return v.branch(int(i.A))
	case api.OpField:
		return v.part(int(i.A))
	case api.OpPay:
		return v.part(0)
	case api.OpIs:
		o, ok := v.look(v.thing(0))
		if !ok {
			return fault(v.thing(0))
		}
		return v.makesTruth(1, int64(o.Tag) == i.A)
	case api.OpPrim:
		return v.prim(i)
	case api.OpTry:
		v.marks = append(v.marks, mark{len(v.frames) - 1, len(v.rows), int(i.A)})
	case api.OpEnd:
		v.marks = v.marks[:len(v.marks)-1]
	case api.OpSlide:
		return v.done(int(i.A)+1, v.thing(0))
	case api.OpPop:
		v.cut(1)
	case api.OpRaise:
		w := v.thing(0)
		v.cut(1)
		return v.raise(w)
	case api.OpRoot:
		return v.end(Stop{Kind: StopRoot, A: int(i.A)}, true)
	case api.OpBind:
		return v.stopped(1, v.thing(0), Stop{Kind: StopBind, A: int(i.A), Word: v.thing(0)})
	case api.OpHalt:
		return v.end(Stop{Kind: StopDone}, true)
	default:
		return v.build(f, i)
	}
	f.at++
	return Stop{}, true
}

// build does an instruction that makes objects.
func (v *Vm) build(f *frame, i *instr) (Stop, bool) {
	switch i.Op {
	case api.OpStr:
		return v.makes(0, func() api.Object { return api.Object{Kind: api.ObjStr, Text: i.Text} })
	case api.OpTuple:
		return v.makes(int(i.A), func() api.Object { return api.Object{Kind: api.ObjTuple, Words: v.topmost(int(i.A))} })
	case api.OpCon:
		return v.makes(int(i.B), func() api.Object {
			return api.Object{Kind: api.ObjCon, Tag: int(i.A), Words: v.topmost(int(i.B))}
		})
	case api.OpExn:
		return v.makes(int(i.B), func() api.Object {
			return api.Object{Kind: api.ObjExn, Tag: int(i.A), Words: v.topmost(int(i.B))}
		})
	case api.OpMate:
		g := v.groups[f.fun]
		return v.makes(0, func() api.Object {
			return api.Object{Kind: api.ObjFun, Tag: g.first + int(i.A), Words: v.caught[f.env : f.env+g.caught]}
		})
	}
	return v.group(i)
}

// topmost are the topmost things, the lowest first, as they stand in the row.
func (v *Vm) topmost(n int) []api.Word { return v.rows[len(v.rows)-n:] }

// group makes functions that know one another.
func (v *Vm) group(i *instr) (Stop, bool) {
	for n := range int(i.B) {
		k, ok := v.alloc(func() api.Object {
			return api.Object{Kind: api.ObjFun, Tag: int(i.A) + n, Words: v.topmost(int(i.C))}
		})
		if !ok {
			v.fresh = nil
			return v.end(Stop{Kind: StopMemory}, false)
		}
		v.fresh = append(v.fresh, k)
	}
	v.cut(int(i.C))
	for _, k := range v.fresh {
		v.rows = append(v.rows, handle(k))
	}
	v.fresh = v.fresh[:0]
	v.top().at++
	return Stop{}, true
}

// call begins a frame of a function; what is none comes to unit.
func (v *Vm) call() (Stop, bool) {
	w, x := v.thing(1), v.thing(0)
	o, ok := v.look(w)
	if !ok {
		return fault(w)
	}
	if o.Kind != api.ObjFun || o.Tag < 1 || o.Tag >= len(v.funs) || len(o.Words) != v.groups[o.Tag].caught {
		return v.done(2, number(0))
	}
	v.top().at++
	v.cut(2)
	v.frames = append(v.frames, frame{fun: o.Tag, foot: len(v.rows), env: len(v.caught)})
	v.caught = append(v.caught, o.Words...)
	v.rows = append(v.rows, x)
	return Stop{}, true
}

// branch goes on elsewhere, if a thing is false.
func (v *Vm) branch(to int) (Stop, bool) {
	o, ok := v.look(v.thing(0))
	if !ok {
		return fault(v.thing(0))
	}
	v.cut(1)
	if o.Tag == 0 {
		v.top().at = to
	} else {
		v.top().at++
	}
	return Stop{}, true
}

// part puts a part of a thing.
func (v *Vm) part(n int) (Stop, bool) {
	w := v.thing(0)
	x, ok := v.word(w, n)
	if !ok {
		if _, ok := v.look(w); !ok {
			return fault(w)
		}
		x = number(0)
	}
	return v.done(1, x)
}

// word is a word of a thing's object; a stub has none.
func (v *Vm) word(w api.Word, n int) (api.Word, bool) {
	if w.Kind != api.WordOid {
		return api.Word{}, false
	}
	return v.heap.Word(int(w.Num), n)
}
