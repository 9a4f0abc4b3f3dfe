package infer

import (
	"slices"

	"aumbry/api"
)

// binding of a name to a type.
type binding struct {
	name    string
	ty      api.Ty
	general []int // the unknowns over which it is general
	before  int   // where the name is bound ahead of it, and one; 0: nowhere
	open    bool  // it may have other unknowns, or be too great
}

// scope is the names that are bound, one behind the other.
type scope struct {
	row    []binding
	latest map[string]int // where a name is bound last, and one
	open   []int          // where those stand that are open
}

// newScope is one without names.
func newScope() scope { return scope{latest: map[string]int{}} }

// mark is how many names are bound.
func (s *scope) mark() int { return len(s.row) }

// undo takes the latest names away, till there are so many.
func (s *scope) undo(mark int) {
	for len(s.row) > mark {
		b := s.row[len(s.row)-1]
		s.row = s.row[:len(s.row)-1]
		s.latest[b.name] = b.before
		if b.open {
			s.open = s.open[:len(s.open)-1]
		}
	}
}

// bind binds a name, which hides those of that name ahead.
func (in *inferrer) bind(name string, t api.Ty, general []int) {
	s := &in.names
	b := binding{name: name, ty: t, general: general, before: s.latest[name]}
	b.open = in.tooGreat(t) || len(in.free(t)) > len(general)
	if b.open {
		s.open = append(s.open, len(s.row))
	}
	s.row = append(s.row, b)
	s.latest[name] = len(s.row)
}

// tooGreat says whether a type, applied, is too great.
func (in *inferrer) tooGreat(t api.Ty) bool {
	return isHuge(t) || in.book.Apply(t).Kind == 0
}

// free lists the unknowns of a type, none of one that is too great.
func (in *inferrer) free(t api.Ty) []int {
	if isHuge(t) {
		return nil
	}
	return in.book.Free(t)
}

// closed is a type, applied, and over what it is general where it stands.
func (in *inferrer) closed(t api.Ty) (api.Ty, []int, api.Errno) {
	if in.tooGreat(t) {
		return api.Ty{}, nil, api.ErrDeep
	}
	taken := map[int]bool{}
	for _, at := range in.names.open {
		b := in.names.row[at]
		if in.tooGreat(b.ty) {
			return api.Ty{}, nil, api.ErrDeep
		}
		for _, u := range in.free(b.ty) {
			if !slices.Contains(b.general, u) {
				taken[u] = true
			}
		}
	}
	var general []int
	for _, u := range in.free(t) {
		if !taken[u] {
			general = append(general, u)
		}
	}
	return in.book.Apply(t), general, api.OK
}

// opened is a name's type, with fresh unknowns where it is general.
func (in *inferrer) opened(name string) (api.Ty, api.Errno) {
	at := in.names.latest[name]
	if at == 0 {
		return api.Ty{}, api.ErrName
	}
	b := in.names.row[at-1]
	if len(b.general) == 0 {
		return b.ty, api.OK
	}
	if in.tooGreat(b.ty) {
		return api.Ty{}, api.ErrDeep
	}
	fresh := map[int]api.Ty{}
	for _, u := range b.general {
		fresh[u] = in.book.Fresh()
	}
	return swap(b.ty, func(v api.Ty) api.Ty {
		if f, ok := fresh[v.Num]; ok {
			return f
		}
		return v
	}), api.OK
}

// must makes a type that was found be another one.
func (in *inferrer) must(found, be api.Ty) api.Errno {
	if isHuge(found) || isHuge(be) {
		return api.ErrDeep
	}
	return in.book.Unify(found, be)
}

// isHuge says whether a type is too great whatever is bound. Types of names are parts of
// others without being copied, so one may have far more parts than can be gone through.
func isHuge(t api.Ty) bool {
	parts := 0
	var fits func(t api.Ty, deep int) bool
	fits = func(t api.Ty, deep int) bool {
		if parts++; parts > api.MaxParts || deep > api.MaxDepth {
			return false
		}
		for _, k := range t.Kids {
			if !fits(k, deep+1) {
				return false
			}
		}
		return true
	}
	return !fits(t, 1)
}

// swap is a type whose unknowns are others.
func swap(t api.Ty, unknown func(api.Ty) api.Ty) api.Ty {
	if t.Kind == api.TyVar {
		return unknown(t)
	}
	var kids []api.Ty
	for _, k := range t.Kids {
		kids = append(kids, swap(k, unknown))
	}
	t.Kids = kids
	return t
}

// named is a type of a name.
func named(name string, kids ...api.Ty) api.Ty {
	return api.Ty{Kind: api.TyCon, Name: name, Kids: kids}
}

// arrow is the type of functions from one to the other.
func arrow(from, to api.Ty) api.Ty { return api.Ty{Kind: api.TyFun, Kids: []api.Ty{from, to}} }

// tuple is the type of tuples.
func tuple(kids ...api.Ty) api.Ty { return api.Ty{Kind: api.TyTuple, Kids: kids} }

// ahead binds what is bound ahead of a program.
func (in *inferrer) ahead() {
	number, text, unit, truth := named("int"), named("string"), named("unit"), named("bool")
	for _, name := range []string{"int", "string", "unit", "bool", "exn"} {
		in.kinds[name] = 0
	}
	in.kinds["ref"], in.kinds["array"] = 1, 1
	for place, name := range []string{"false", "true"} {
		in.con(api.Con{Name: name}, nil, truth, api.Info{Place: place, Many: 2})
	}
	for _, name := range []string{"Div", "Subscript", "Size"} {
		in.exception(api.Dec{Cons: []api.Con{{Name: name}}})
	}
	a := in.book.Fresh()
	row := named("array", a)
	for _, n := range []struct {
		name string
		ty   api.Ty
	}{
		{"print", arrow(text, unit)},
		{"itos", arrow(number, text)},
		{"size", arrow(text, number)},
		{"same", arrow(tuple(text, text), truth)},
		{"not", arrow(truth, truth)},
		{"ref", arrow(a, named("ref", a))},
		{"len", arrow(row, number)},
		{"array", arrow(tuple(number, a), row)},
		{"get", arrow(tuple(row, number), a)},
		{"put", arrow(tuple(row, number, a), unit)},
		{"commit", arrow(unit, unit)},
		{"abort", arrow(unit, unit)},
	} {
		in.bind(n.name, n.ty, in.book.Free(n.ty))
	}
}
