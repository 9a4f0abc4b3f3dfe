package types

import (
	"reflect"
	"slices"
	"testing"

	"aumbry/api"
)

func is(t *testing.T, what string, got, want api.Errno) {
	t.Helper()
	if got != want {
		t.Errorf("%s: %d, not %d", what, got, want)
	}
}

func v(n int) api.Ty                   { return api.Ty{Kind: api.TyVar, Num: n} }
func con(s string, l ...api.Ty) api.Ty { return api.Ty{Kind: api.TyCon, Name: s, Kids: l} }
func fn(a, b api.Ty) api.Ty            { return api.Ty{Kind: api.TyFun, Kids: []api.Ty{a, b}} }
func tuple(l ...api.Ty) api.Ty         { return api.Ty{Kind: api.TyTuple, Kids: l} }
func same(t *testing.T, got, want api.Ty) {
	t.Helper()
	if !Same(got, want) {
		t.Errorf("%v, not %v", got, want)
	}
}

// book is one with some unknowns.
func book(n int) *Book {
	b := New()
	for range n {
		b.Fresh()
	}
	return b
}

var integer = api.Ty{Kind: api.TyCon, Name: "int"}
var str = api.Ty{Kind: api.TyCon, Name: "string"}

// nest is a type so deep.
func nest(n int) api.Ty {
	t := integer
	for range n - 1 {
		t = con("list", t)
	}
	return t
}

// wide is a type of so many parts.
func wide(n int) api.Ty { return tuple(slices.Repeat([]api.Ty{integer}, n-1)...) }

var wrong = []api.Ty{
	{}, {Kind: 5}, v(-1), {Kind: api.TyVar, Name: "'a"}, {Kind: api.TyVar, Kids: []api.Ty{integer}},
	con(""), {Kind: api.TyCon, Name: "a", Num: 1}, con("a", v(-1)), tuple(integer), tuple(), {Kind: api.TyFun, Kids: []api.Ty{integer}}, {Kind: api.TyFun, Kids: []api.Ty{integer, integer, integer}},
	{Kind: api.TyFun, Name: "x", Kids: []api.Ty{integer, integer}}, {Kind: api.TyTuple, Num: 2, Kids: []api.Ty{integer, integer}}, tuple(integer, api.Ty{}),
}

func TestWords(t *testing.T) { // P17.1
	for _, x := range wrong {
		if Right(x) || Depth(x) != 0 {
			t.Errorf("%v", x)
		}
	}
	for want, x := range map[int]api.Ty{1: integer, 2: tuple(v(0), v(0)), 3: fn(integer, con("list", v(70000))), 4: con("t", fn(integer, integer), fn(integer, tuple(integer, integer)))} {
		if !Right(x) || Depth(x) != want {
			t.Errorf("%v: %d", x, Depth(x))
		}
	}
	if !Same(wrong[4], wrong[4]) || Same(v(0), v(1)) || Same(integer, str) || Same(integer, con("int", integer)) || Same(fn(integer, str), tuple(integer, str)) || Same(tuple(integer, str), tuple(integer, integer)) {
		t.Error("Same")
	}
	same(t, Put(tuple(v(0), v(1)), []api.Ty{integer, v(0)}), tuple(integer, v(0)))
	same(t, Put(fn(v(2), con("a", v(0), v(-1))), []api.Ty{v(2), integer}), fn(v(2), con("a", v(2), v(-1))))
	same(t, Put(tuple(v(0), v(0)), nil), tuple(v(0), v(0)))
	l := []api.Ty{con("a", integer)}
	x := tuple(v(0), v(0))
	got := Put(x, l)
	got.Kids[0].Kids[0] = str
	if l[0].Kids[0].Name != "int" || got.Kids[1].Kids[0].Name != "int" {
		t.Error("Put shares")
	}
}

// varOf is an unknown with kids, which no type that may be has.
func varOf(num int, l ...api.Ty) api.Ty { return api.Ty{Kind: api.TyVar, Num: num, Kids: l} }

func TestPutInAny(t *testing.T) { // P17.1, of types that may not be
	l := []api.Ty{integer, varOf(0, v(1), varOf(5, v(0)))}
	odd := func(k api.Ty) api.Ty {
		return api.Ty{Kind: 9, Name: "n", Num: 1, Kids: []api.Ty{k, {Kind: api.TyFun, Num: 2, Kids: []api.Ty{k}}}}
	}
	for _, c := range []struct{ in, want api.Ty }{
		{varOf(2, v(0)), varOf(2, integer)},
		{varOf(-1, v(0), v(2)), varOf(-1, integer, v(2))},
		{varOf(3, tuple(str, v(0))), varOf(3, tuple(str, integer))},
		{varOf(2, varOf(7, varOf(4, v(0), v(1)))), varOf(2, varOf(7, varOf(4, integer, l[1])))},
		{varOf(0, v(1)), integer},
		{varOf(1, v(0)), l[1]},
		{con("a", varOf(0, v(2)), varOf(2, con("b", v(0)))), con("a", integer, varOf(2, con("b", integer)))},
		{api.Ty{Kind: api.TyVar, Name: "'a", Num: 2, Kids: []api.Ty{v(0)}}, api.Ty{Kind: api.TyVar, Name: "'a", Num: 2, Kids: []api.Ty{integer}}},
		{api.Ty{Kind: api.TyVar, Name: "'a"}, integer},
		{odd(v(0)), odd(integer)},
		{odd(varOf(2, v(1))), odd(varOf(2, l[1]))},
		{api.Ty{}, api.Ty{}},
	} {
		same(t, Put(c.in, l), c.want)
		same(t, Put(c.in, nil), c.in)
	}
}

func TestPutIsNew(t *testing.T) { // P17.1, R3
	in := func() api.Ty { return varOf(2, varOf(1, str), v(0), v(0)) }
	put := func() []api.Ty { return []api.Ty{varOf(3, integer)} }
	x, l := in(), put()
	got := Put(x, l)
	same(t, got, varOf(2, varOf(1, str), varOf(3, integer), varOf(3, integer)))
	got.Kids[0].Kids[0] = v(8)
	got.Kids[1].Kids[0] = v(9)
	same(t, got.Kids[2], varOf(3, integer))
	got.Kids[2] = v(7)
	same(t, x, in())
	same(t, l[0], put()[0])
}

func TestFresh(t *testing.T) { // P17.1
	b := New()
	same(t, b.Fresh(), v(0))
	same(t, b.Fresh(), v(1))
	same(t, b.Apply(v(1)), v(1))
	var none *Book
	if !reflect.DeepEqual(none.Fresh(), api.Ty{}) || !reflect.DeepEqual(none.Apply(integer), api.Ty{}) || none.Free(integer) != nil || none.Mark() != 0 {
		t.Error("no book")
	}
	none.Back(0)
	is(t, "no book", none.Unify(wrong[0], wrong[0]), api.ErrNil)
}

func TestExamples(t *testing.T) { // P17.2, P17.3
	b := book(3)
	is(t, "Unify", b.Unify(fn(v(0), integer), v(1)), api.OK)
	is(t, "Unify", b.Unify(v(1), fn(str, v(2))), api.OK)
	same(t, b.Apply(v(1)), fn(str, integer))
	same(t, b.Apply(tuple(v(0), v(2), v(1))), tuple(str, integer, fn(str, integer)))
	is(t, "Unify", book(1).Unify(v(0), con("list", v(0))), api.ErrType)
	is(t, "Unify", book(1).Unify(con("list", v(0)), v(0)), api.ErrType)
	is(t, "Unify", book(1).Unify(integer, str), api.ErrType)
}

func TestUnify(t *testing.T) { // P17.3
	for _, c := range []struct {
		s, t api.Ty
		e    api.Errno
	}{
		{v(0), v(0), 0}, {integer, integer, 0}, {con("t", v(0), integer), con("t", str, v(1)), 0}, {tuple(v(0), v(0)), tuple(integer, str), api.ErrType}, {tuple(v(0), v(1)), tuple(v(1), con("a", v(0))), api.ErrType},
		{con("t", integer), con("t"), api.ErrType}, {tuple(integer, integer), tuple(integer, integer, integer), api.ErrType}, {fn(integer, integer), tuple(integer, integer), api.ErrType}, {v(3), integer, api.ErrArg}, {integer, con("a", v(3)), api.ErrArg},
	} {
		b := book(3)
		if e := b.Unify(c.s, c.t); e != c.e {
			t.Errorf("%v, %v: %d", c.s, c.t, e)
		} else if e != api.OK && b.Mark() != 0 {
			t.Error("with an error the book is as it was")
		} else if e == api.OK {
			same(t, b.Apply(c.s), b.Apply(c.t))
			n := b.Mark()
			if is(t, "again", b.Unify(c.s, c.t), api.OK); b.Mark() != n {
				t.Error("again something is bound")
			}
		}
	}
	for _, x := range wrong {
		is(t, "wrong", book(1).Unify(x, integer), api.ErrArg)
		is(t, "wrong", book(1).Unify(nest(101), x), api.ErrArg)
	}
	b := book(3)
	b.Unify(v(2), v(0))
	same(t, b.Apply(v(2)), v(0))
	b.Unify(v(0), v(1))
	same(t, b.Apply(v(2)), v(0))
	same(t, b.Apply(v(1)), v(0))
}

func TestGreat(t *testing.T) { // P17.2, P17.3
	b := book(30)
	is(t, "deep", b.Unify(nest(100), nest(100)), api.OK)
	is(t, "deep", b.Unify(nest(101), integer), api.ErrDeep)
	is(t, "deep", b.Unify(integer, nest(101)), api.ErrDeep)
	is(t, "wide", b.Unify(wide(1000), wide(1000)), api.OK)
	is(t, "wide", b.Unify(integer, wide(1001)), api.ErrDeep)
	same(t, b.Apply(nest(101)), api.Ty{})
	same(t, b.Apply(wide(1001)), api.Ty{})
	if b.Free(tuple(v(0), nest(101))) != nil {
		t.Error("Free of one too deep")
	}
	is(t, "behind a binding", b.Unify(tuple(v(0), v(0)), tuple(wide(600), v(1))), api.ErrDeep)
	if b.Mark() != 0 {
		t.Error("it is undone")
	}
	is(t, "behind a binding", b.Unify(con("a", v(0)), con("a", nest(99))), api.OK)
	is(t, "a deep one in a deep one", b.Unify(v(1), con("a", con("a", v(0)))), api.ErrDeep)
	b = book(60)
	for i := range 8 {
		is(t, "doubled", b.Unify(v(i+1), tuple(v(i), v(i))), api.OK)
	}
	is(t, "511 parts", b.Unify(v(20), v(8)), api.OK)
	is(t, "1023 parts", b.Unify(v(9), tuple(v(8), v(8))), api.ErrDeep)
	for i := 30; i < 59; i++ { // from above: none is too great till the last one is bound
		e := b.Unify(v(i), tuple(v(i+1), v(i+1)))
		is(t, "halved", e, api.OK)
	}
	same(t, b.Apply(v(30)), api.Ty{})
	if len(b.Free(v(55))) != 1 {
		t.Error("Free")
	}
}

func TestApply(t *testing.T) { // P17.2
	b := book(2)
	b.Unify(v(0), con("a", v(1)))
	for _, x := range append(wrong, v(2), tuple(v(0), v(2)), varOf(1, v(0)), con("a", varOf(2, con("b", v(0))))) {
		same(t, b.Apply(x), x)
		if b.Free(x) != nil {
			t.Errorf("Free(%v)", x)
		}
	}
	b = book(4)
	b.Unify(v(1), tuple(v(3), v(0)))
	if got := b.Free(tuple(v(2), v(1), fn(v(2), v(0)))); !slices.Equal(got, []int{2, 3, 0}) {
		t.Error("Free", got)
	}
	x := con("a", con("b"))
	b.Unify(v(2), x)
	x.Kids[0] = integer
	got := b.Apply(v(2))
	got.Kids[0] = str
	same(t, b.Apply(v(2)), con("a", con("b")))
}

func TestBack(t *testing.T) { // P17.4
	b := book(4)
	b.Unify(tuple(v(0), v(1)), tuple(integer, str))
	if b.Mark() != 2 {
		t.Error("Mark")
	}
	b.Unify(v(2), v(0))
	b.Back(9)
	if b.Mark() != 3 {
		t.Error("there are no more")
	}
	b.Back(1)
	same(t, b.Apply(tuple(v(0), v(1), v(2))), tuple(integer, v(1), v(2)))
	same(t, b.Fresh(), v(4))
	b.Back(-5)
	if b.Mark() != 0 {
		t.Error("all")
	}
	same(t, b.Apply(v(0)), v(0))
}

func TestMostGeneral(t *testing.T) { // P17.5
	x := uint32(1)
	next := func(n int) int { x = x*1664525 + 1013904223; return int(x>>8) % n }
	var make func(deep, vars int) api.Ty
	make = func(deep, vars int) api.Ty {
		switch k := next(6); {
		case k < 2 && vars > 0:
			return v(next(vars))
		case deep == 0 || k < 3:
			return []api.Ty{integer, str}[next(2)]
		case k == 3:
			return con("list", make(deep-1, vars))
		case k == 4:
			return fn(make(deep-1, vars), make(deep-1, vars))
		}
		return tuple(make(deep-1, vars), make(deep-1, vars))
	}
	for range 3000 {
		// two types that some ground types in the place of unknowns make the same
		ground := []api.Ty{make(2, 0), make(2, 0), make(2, 0), make(2, 0)}
		s := make(3, 4)
		whole := Put(s, ground)
		other := generalised(whole, ground, next)
		b := book(4)
		if e := b.Unify(s, other); e != api.OK {
			t.Fatalf("%v and %v: %d", s, other, e)
		}
		same(t, b.Apply(s), b.Apply(other))
		same(t, Put(b.Apply(s), ground), whole)
		for i := range ground { // what makes them the same makes it by way of what is bound
			same(t, Put(b.Apply(v(i)), ground), ground[i])
		}
	}
}

// generalised is a type some of whose parts are unknowns that stand for the same.
func generalised(t api.Ty, ground []api.Ty, next func(int) int) api.Ty {
	for i, g := range ground {
		if Same(t, g) && next(2) == 0 {
			return v(i)
		}
	}
	c := api.Ty{Kind: t.Kind, Name: t.Name}
	for _, k := range t.Kids {
		c.Kids = append(c.Kids, generalised(k, ground, next))
	}
	return c
}
