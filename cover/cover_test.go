package cover

import (
	"slices"
	"strconv"
	"testing"

	"aumbry/api"
)

var infos = []api.Info{
	{Name: "false", Of: "bool", Many: 2}, {Name: "true", Of: "bool", Place: 1, Many: 2},
	{Name: "Nil", Of: "list", Many: 2}, {Name: "Cons", Of: "list", Place: 1, Many: 2, Has: true},
	{Name: "One", Of: "one", Many: 1, Has: true}, {Name: "E", Of: "exn"}, {Name: "F", Of: "exn", Has: true},
	{Name: "Nil", Of: "other", Has: true},
	{Name: "R", Of: "rgb"}, {Name: "G", Of: "rgb"}, {Name: "B", Of: "rgb"},
}

var wild = api.Pat{Kind: api.PatAny}
var x = api.Pat{Kind: api.PatVar, Name: "x"}
var unit = api.Pat{Kind: api.PatUnit}

func con(s string, l ...api.Pat) api.Pat { return api.Pat{Kind: api.PatCon, Name: s, Kids: l} }
func num(n int64) api.Pat                { return api.Pat{Kind: api.PatInt, Num: n} }
func tup(l ...api.Pat) api.Pat           { return api.Pat{Kind: api.PatTuple, Kids: l} }

func TestCheck(t *testing.T) { // P18.1
	yes, no, nill := con("true"), con("false"), con("Nil")
	for i, c := range []struct {
		part, whole api.Errno
		pats        []api.Pat
	}{
		{0, 0, []api.Pat{yes, no}}, {0, api.ErrCover, []api.Pat{yes}}, {api.ErrCover, api.ErrCover, []api.Pat{wild, yes}}, {api.ErrCover, api.ErrCover, []api.Pat{yes, no, wild}},
		{0, api.ErrCover, []api.Pat{tup(yes, wild), tup(x, no)}}, {0, 0, []api.Pat{tup(yes, wild), tup(wild, no), tup(no, yes)}},
		{0, api.ErrCover, []api.Pat{num(1), num(2)}}, {0, 0, []api.Pat{num(1), num(2), wild}}, {api.ErrCover, api.ErrCover, []api.Pat{num(1), num(1)}},
		{0, 0, []api.Pat{con("Cons", tup(x, nill)), nill, con("Cons", tup(x, con("Cons", x)))}},
		{api.ErrType, api.ErrType, []api.Pat{con("Cons")}}, {api.ErrType, api.ErrType, []api.Pat{num(1), unit}}, {api.ErrName, api.ErrName, []api.Pat{con("Z")}},
		{0, api.ErrCover, nil}, {0, 0, []api.Pat{wild}}, {0, 0, []api.Pat{unit}}, {api.ErrCover, api.ErrCover, []api.Pat{unit, wild}}, {0, 0, []api.Pat{con("One", x)}}, {api.ErrCover, api.ErrCover, []api.Pat{con("One", x), wild}},
		{0, api.ErrCover, []api.Pat{con("E"), con("F", x)}}, {0, 0, []api.Pat{con("E"), con("F", x), wild}}, {0, 0, []api.Pat{con("F", yes), con("E"), con("F", no), x}},
		{api.ErrType, api.ErrType, []api.Pat{nill, yes}}, {api.ErrType, api.ErrType, []api.Pat{con("Nil", x)}}, {api.ErrType, api.ErrType, []api.Pat{tup(x, x), tup(x, x, x)}}, {api.ErrType, api.ErrType, []api.Pat{tup(x)}},
		{api.ErrType, api.ErrType, []api.Pat{{Kind: api.PatInt, Kids: []api.Pat{x}}}}, {api.ErrType, api.ErrType, []api.Pat{{Kind: 7}}}, {api.ErrType, api.ErrType, []api.Pat{wild, {}}},
		{api.ErrType, api.ErrType, []api.Pat{tup(num(1), x), tup(unit, x)}}, {api.ErrType, api.ErrType, []api.Pat{con("Cons", num(1)), wild, con("Cons", unit)}}, {0, api.ErrCover, []api.Pat{con("F", num(1)), con("E")}},
		{api.ErrType, api.ErrType, []api.Pat{con("F", num(1)), con("E"), con("F", yes)}}, {api.ErrType, api.ErrType, []api.Pat{con("Nil"), con("One", con("Cons"))}},
		{api.ErrName, api.ErrName, []api.Pat{num(1), unit, tup(x, con("Z"))}}, {api.ErrName, api.ErrName, []api.Pat{{Kind: api.PatAny, Kids: []api.Pat{con("Z")}}}}, {0, 0, []api.Pat{{Kind: api.PatAny, Kids: []api.Pat{con("E")}}}},
		{0, 0, []api.Pat{con("R"), con("G"), con("B")}}, {0, api.ErrCover, []api.Pat{con("R"), con("G")}}, {0, 0, []api.Pat{con("G"), wild}},
		{api.ErrCover, api.ErrCover, []api.Pat{tup(yes, x), tup(x, yes), tup(no, no), tup(wild, wild)}}, {api.ErrCover, api.ErrCover, []api.Pat{tup(num(1), yes), tup(x, no), tup(wild, yes), tup(num(2), wild)}},
		{0, 0, []api.Pat{tup(num(1), yes), tup(x, no), tup(wild, yes)}}, {api.ErrCover, api.ErrCover, []api.Pat{tup(unit, yes), tup(wild, no), tup(x, yes)}},
	} {
		if got := Check(c.pats, infos, false); got != c.part {
			t.Errorf("%d: %d, not %d", i, got, c.part)
		}
		if got := Check(c.pats, infos, true); got != c.whole {
			t.Errorf("%d, whole: %d, not %d", i, got, c.whole)
		}
	}
}

func TestDeep(t *testing.T) { // P18.1
	l := make([]api.Pat, 0, 201)
	for i := range 200 {
		l = append(l, num(int64(i)))
	}
	if Check(l, nil, false) != api.OK || Check(append(l, con("Z")), nil, false) != api.ErrDeep {
		t.Error("200")
	}
	p := wild
	for range 198 {
		p = con("F", p)
	}
	if Check([]api.Pat{p, wild}, infos, true) != api.OK {
		t.Error("nested")
	}
	if Check([]api.Pat{con("F", con("F", p))}, infos, false) != api.ErrDeep {
		t.Error("nested")
	}
	for range 1 << 16 {
		p = con("Z", p)
	}
	if Check([]api.Pat{p}, nil, true) != api.ErrDeep {
		t.Error("deep")
	}
}

func TestWide(t *testing.T) { // it ends soon
	yes, no := con("true"), con("false")
	var l []api.Pat
	for i := range 12 {
		row := slices.Repeat([]api.Pat{wild}, 13)
		row[i], row[i+1] = yes, no
		l = append(l, tup(row...))
	}
	if Check(l, infos, true) != api.ErrCover || Check(l, infos, false) != api.OK {
		t.Error("wide")
	}
}

// takes says whether a pattern takes a value, which is a pattern without wild ones.
func takes(p, v api.Pat) bool {
	if isWild(p) {
		return true
	}
	if p.Kind != v.Kind || p.Name != v.Name || p.Num != v.Num {
		return false
	}
	for i := range p.Kids {
		if !takes(p.Kids[i], v.Kids[i]) {
			return false
		}
	}
	return true
}

// TestAgainstValues holds the answer against all values of a small type.
func TestAgainstValues(t *testing.T) { // P18.1
	bools := []api.Pat{con("true"), con("false")}
	exns := []api.Pat{con("E"), con("F", con("true")), con("F", con("false")), con("?")}
	nums := []api.Pat{num(1), num(2), num(77)}
	var values []api.Pat
	for _, a := range bools {
		for _, b := range exns {
			for _, c := range nums {
				values = append(values, tup(a, b, tup(c, unit)))
			}
		}
	}
	seed := uint32(4)
	next := func(n int) int { seed = seed*1664525 + 1013904223; return int(seed>>8) % n }
	made := func(l []api.Pat) api.Pat {
		if next(2) == 0 {
			return wild
		}
		return l[next(len(l))]
	}
	one := func() api.Pat {
		last := tup(made(nums[:2]), made([]api.Pat{unit}))
		if next(4) == 0 {
			last = x
		}
		exn := made(exns[:3])
		if next(4) == 0 {
			exn = con("F", wild)
		}
		return tup(made(bools), exn, last)
	}
	for range 4000 {
		var pats []api.Pat
		for range 1 + next(7) {
			pats = append(pats, one())
		}
		left := slices.Clone(values)
		useful := true
		for _, p := range pats {
			n := len(left)
			left = slices.DeleteFunc(left, func(v api.Pat) bool { return takes(p, v) })
			useful = useful && len(left) < n
		}
		want, wantWhole := api.OK, api.OK
		if !useful {
			want = api.ErrCover
		}
		if !useful || len(left) > 0 {
			wantWhole = api.ErrCover
		}
		if Check(pats, infos, false) != want || Check(pats, infos, true) != wantWhole {
			t.Fatal(strconv.Itoa(len(pats)), pats)
		}
	}
}
