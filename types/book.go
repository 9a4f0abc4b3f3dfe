package types

import "aumbry/api"

// Book of unknowns.
type Book struct {
	bound []*api.Ty // of each unknown, to what it is bound
	trail []int     // those that are bound, in the order in which they were
}

// New is a book without unknowns. (P17.1)
func New() *Book { return &Book{} }

// Fresh is one unknown more. (P17.1)
func (b *Book) Fresh() api.Ty {
	if b == nil {
		return api.Ty{}
	}
	b.bound = append(b.bound, nil)
	return api.Ty{Kind: api.TyVar, Num: len(b.bound) - 1}
}

// knows says whether a type may be, and all its unknowns are the book's.
func (b *Book) knows(t api.Ty) bool {
	return Right(t) && each(t, func(num int) bool { return num < len(b.bound) })
}

// head is a type, seen through what is bound as far as its first sign.
func (b *Book) head(t api.Ty) api.Ty {
	for t.Kind == api.TyVar && b.bound[t.Num] != nil {
		t = *b.bound[t.Num]
	}
	return t
}

// tooGreat says whether a type, applied, has too many parts or is too deep.
func (b *Book) tooGreat(t api.Ty) bool {
	parts := 0
	var fits func(t api.Ty, deep int) bool
	fits = func(t api.Ty, deep int) bool {
		if parts++; parts > api.MaxParts || deep > api.MaxDepth {
			return false
		}
		for _, k := range b.head(t).Kids {
			if !fits(k, deep+1) {
				return false
			}
		}
		return true
	}
	return !fits(t, 1)
}

// apply is a type that is not too great, applied.
func (b *Book) apply(t api.Ty) api.Ty {
	return through(t, func(num int) (api.Ty, bool) {
		if to := b.bound[num]; to != nil {
			return b.apply(*to), true
		}
		return api.Ty{}, false
	})
}

// Apply is a type with what is bound in its place. (P17.2)
func (b *Book) Apply(t api.Ty) api.Ty {
	switch {
	case b == nil:
		return api.Ty{}
	case !b.knows(t):
		return through(t, stays)
	case b.tooGreat(t):
		return api.Ty{}
	}
	return b.apply(t)
}

// Free lists the unknowns of a type, applied, each once. (P17.2)
func (b *Book) Free(t api.Ty) []int {
	if b == nil || !b.knows(t) || b.tooGreat(t) {
		return nil
	}
	var l []int
	seen := map[int]bool{}
	each(b.apply(t), func(num int) bool {
		if !seen[num] {
			seen[num] = true
			l = append(l, num)
		}
		return true
	})
	return l
}

// Mark tells how many bindings there are. (P17.4)
func (b *Book) Mark() int {
	if b == nil {
		return 0
	}
	return len(b.trail)
}

// Back undoes the latest bindings. (P17.4)
func (b *Book) Back(mark int) {
	for b.Mark() > max(mark, 0) {
		last := len(b.trail) - 1
		b.bound[b.trail[last]] = nil
		b.trail = b.trail[:last]
	}
}

// Unify binds what must be bound, so that two types are the same. (P17.3)
func (b *Book) Unify(s, t api.Ty) api.Errno {
	switch {
	case b == nil:
		return api.ErrNil
	case !b.knows(s) || !b.knows(t):
		return api.ErrArg
	case b.tooGreat(s) || b.tooGreat(t):
		return api.ErrDeep
	}
	mark := b.Mark()
	u := unifier{b, b.apply(s), b.apply(t)}
	e := u.unify(u.s, u.t)
	if e != api.OK {
		b.Back(mark)
	}
	return e
}

// unifier is at work on two types.
type unifier struct {
	*Book
	s, t api.Ty
}

// unify makes two parts of the types the same.
func (u *unifier) unify(s, t api.Ty) api.Errno {
	s, t = u.head(s), u.head(t)
	sVar, tVar := s.Kind == api.TyVar, t.Kind == api.TyVar
	switch {
	case sVar && tVar && s.Num == t.Num:
		return api.OK
	case sVar && (!tVar || s.Num > t.Num):
		return u.bind(s.Num, t)
	case tVar:
		return u.bind(t.Num, s)
	}
	if s.Kind != t.Kind || s.Name != t.Name || len(s.Kids) != len(t.Kids) {
		return api.ErrType
	}
	for i := range s.Kids {
		if e := u.unify(s.Kids[i], t.Kids[i]); e != api.OK {
			return e
		}
	}
	return api.OK
}

// bind binds an unknown to a type that it is not in.
func (u *unifier) bind(num int, t api.Ty) api.Errno {
	if u.within(num, t) {
		return api.ErrType
	}
	u.bound[num] = &t
	u.trail = append(u.trail, num)
	if u.tooGreat(u.s) || u.tooGreat(u.t) {
		return api.ErrDeep
	}
	return api.OK
}

// within says whether an unknown is in a type, applied.
func (u *unifier) within(num int, t api.Ty) bool {
	return !each(t, func(n int) bool {
		if to := u.bound[n]; to != nil {
			return !u.within(num, *to)
		}
		return n != num
	})
}
