package syntax

import (
	"reflect"
	"strings"
	"testing"

	"aumbry/api"
	"aumbry/token"
)

func scan(t *testing.T, src string) []api.Token {
	t.Helper()
	l, at, e := token.Scan([]byte(src))
	if e != api.OK {
		t.Fatalf("%q at %d: %d", src, at, e)
	}
	return l
}

func parsed(t *testing.T, src string) []api.Dec {
	t.Helper()
	p, at, e := Parse(scan(t, src))
	if e != api.OK || at != 0 {
		t.Fatalf("%q: %d at %d", src, e, at)
	}
	return p
}

// exp is the expression of a do.
func exp(t *testing.T, src string) api.Exp {
	t.Helper()
	p := parsed(t, "do "+src+";")
	if len(p) != 1 || p[0].Kind != api.DecDo {
		t.Fatal(src)
	}
	return p[0].Exp
}

func v(name string) api.Exp { return api.Exp{Kind: api.ExpVar, Name: name} }
func n(x int64) api.Exp     { return api.Exp{Kind: api.ExpInt, Num: x} }
func con(s string) api.Exp  { return api.Exp{Kind: api.ExpCon, Name: s} }
func op(s string, l ...api.Exp) api.Exp {
	return api.Exp{Kind: api.ExpOp, Name: s, Kids: l}
}
func of(kind uint8, l ...api.Exp) api.Exp { return api.Exp{Kind: kind, Kids: l} }
func app(a, b api.Exp) api.Exp            { return of(api.ExpApp, a, b) }
func fn(x string, e api.Exp) api.Exp {
	return api.Exp{Kind: api.ExpFn, Name: x, Kids: []api.Exp{e}}
}
func rules(kind uint8, e api.Exp, l ...api.Rule) api.Exp {
	return api.Exp{Kind: kind, Kids: []api.Exp{e}, Rules: l}
}
func pcon(s string, l ...api.Pat) api.Pat { return api.Pat{Kind: api.PatCon, Name: s, Kids: l} }

func TestExpressions(t *testing.T) { // P15.2
	a, b, c, x := v("a"), v("b"), v("c"), v("x")
	for src, want := range map[string]api.Exp{
		"1 - 2 - 3 * 4":  op("-", op("-", n(1), n(2)), op("*", n(3), n(4))),
		"f !x y ^ z ^ w": op("^", app(app(v("f"), op("!", x)), v("y")), op("^", v("z"), v("w"))),
		"case x of A => case y of B => 1 | C => 2": rules(api.ExpCase, x, api.Rule{Pat: pcon("A"), Exp: rules(api.ExpCase, v("y"), api.Rule{Pat: pcon("B"), Exp: n(1)}, api.Rule{Pat: pcon("C"), Exp: n(2)})}),
		"a handle E => b handle F => c":            rules(api.ExpHandle, a, api.Rule{Pat: pcon("E"), Exp: rules(api.ExpHandle, b, api.Rule{Pat: pcon("F"), Exp: c})}),
		"raise a handle E => b":                    of(api.ExpRaise, rules(api.ExpHandle, a, api.Rule{Pat: pcon("E"), Exp: b})),
		"if a then b else c handle E => x":         of(api.ExpIf, a, b, rules(api.ExpHandle, c, api.Rule{Pat: pcon("E"), Exp: x})),
		"a := b + 1 < c":                           op(":=", a, op("<", op("+", b, n(1)), c)),
		"a < b := c":                               op(":=", op("<", a, b), c),
		"a * b - c div 2 mod 3":                    op("-", op("*", a, b), op("mod", op("div", c, n(2)), n(3))),
		"a + b ^ c + x ^ a":                        op("^", op("+", a, b), op("^", op("+", c, x), a)),
		"a ^ b <> c ^ x":                           op("<>", op("^", a, b), op("^", c, x)),
		"fn x => fn y => x y := 1":                 fn("x", fn("y", op(":=", app(x, v("y")), n(1)))),
		"~ 1 - ~a":                                 op("-", op("~", n(1)), op("~", a)),
		"!(!a)":                                    op("!", op("!", a)),
		"f ~1 true ()":                             app(app(app(v("f"), op("~", n(1))), con("true")), of(api.ExpUnit)),
		"(a, b, c)":                                of(api.ExpTuple, a, b, c),
		"(a; b; c)":                                of(api.ExpSeq, a, of(api.ExpSeq, b, c)),
		"((((a))))":                                a,
		"Cons (1, \"s\")":                          app(con("Cons"), of(api.ExpTuple, n(1), api.Exp{Kind: api.ExpStr, Text: "s"})),
		"let val x = 1; fun f x = x; do a; in b end c": app(api.Exp{Kind: api.ExpLet, Decs: []api.Dec{
			{Kind: api.DecVal, Name: "x", Exp: n(1)}, {Kind: api.DecFun, Funs: []api.Fun{{Name: "f", Args: []string{"x"}, Exp: x}}}, {Kind: api.DecDo, Exp: a}}, Kids: []api.Exp{b}}, c),
		"case a of (x, _) => fn y => 1 | ~7 => 2": rules(api.ExpCase, a,
			api.Rule{Pat: api.Pat{Kind: api.PatTuple, Kids: []api.Pat{{Kind: api.PatVar, Name: "x"}, {Kind: api.PatAny}}}, Exp: fn("y", n(1))},
			api.Rule{Pat: api.Pat{Kind: api.PatInt, Num: -7}, Exp: n(2)}),
		"case a of (A B) => 1 | true => 2 | () => 3 | 4 => 5 | (x) => 6 | A (B x) => 7": rules(api.ExpCase, a,
			api.Rule{Pat: pcon("A", pcon("B")), Exp: n(1)}, api.Rule{Pat: pcon("true"), Exp: n(2)}, api.Rule{Pat: api.Pat{Kind: api.PatUnit}, Exp: n(3)},
			api.Rule{Pat: api.Pat{Kind: api.PatInt, Num: 4}, Exp: n(5)}, api.Rule{Pat: api.Pat{Kind: api.PatVar, Name: "x"}, Exp: n(6)},
			api.Rule{Pat: pcon("A", pcon("B", api.Pat{Kind: api.PatVar, Name: "x"})), Exp: n(7)}),
	} {
		if got := exp(t, src); !reflect.DeepEqual(got, want) {
			t.Errorf("%s: %v", src, got)
		}
	}
}

func TestDeclarations(t *testing.T) { // P15.2
	ty := func(name string, l ...api.Ty) api.Ty { return api.Ty{Kind: api.TyCon, Name: name, Kids: l} }
	tv := func(name string) api.Ty { return api.Ty{Kind: api.TyVar, Name: name} }
	kind := func(k uint8, l ...api.Ty) api.Ty { return api.Ty{Kind: k, Kids: l} }
	for src, want := range map[string]api.Dec{
		"datatype t = A;":                                    {Kind: api.DecData, Name: "t", Cons: []api.Con{{Name: "A"}}},
		"datatype 'a t = A | B of 'a * 'a t;":                {Kind: api.DecData, Name: "t", Vars: []string{"'a"}, Cons: []api.Con{{Name: "A"}, {Name: "B", Has: true, Ty: kind(api.TyTuple, tv("'a"), ty("t", tv("'a")))}}},
		"datatype ('a, 'b) t = A of ('a, int -> 'b) t list;": {Kind: api.DecData, Name: "t", Vars: []string{"'a", "'b"}, Cons: []api.Con{{Name: "A", Has: true, Ty: ty("list", ty("t", tv("'a"), kind(api.TyFun, ty("int"), tv("'b"))))}}},
		"datatype ('a) t = A;":                               {Kind: api.DecData, Name: "t", Vars: []string{"'a"}, Cons: []api.Con{{Name: "A"}}},
		"exception E;":                                       {Kind: api.DecExn, Cons: []api.Con{{Name: "E"}}},
		"exception E of (int);":                              {Kind: api.DecExn, Cons: []api.Con{{Name: "E", Has: true, Ty: ty("int")}}},
		"val x = 1;":                                         {Kind: api.DecVal, Name: "x", Exp: n(1)},
		"fun f x y = 1 and g z = 2;":                         {Kind: api.DecFun, Funs: []api.Fun{{Name: "f", Args: []string{"x", "y"}, Exp: n(1)}, {Name: "g", Args: []string{"z"}, Exp: n(2)}}},
		"root r : a * (b * c) -> d ref -> e = 1;":            {Kind: api.DecRoot, Name: "r", Exp: n(1), Ty: kind(api.TyFun, kind(api.TyTuple, ty("a"), kind(api.TyTuple, ty("b"), ty("c"))), kind(api.TyFun, ty("ref", ty("d")), ty("e")))},
		"root r : (a -> b) -> c = 1;":                        {Kind: api.DecRoot, Name: "r", Exp: n(1), Ty: kind(api.TyFun, kind(api.TyFun, ty("a"), ty("b")), ty("c"))},
		"do 1;":                                              {Kind: api.DecDo, Exp: n(1)},
	} {
		if got := parsed(t, src); len(got) != 1 || !reflect.DeepEqual(got[0], want) {
			t.Errorf("%s: %v", src, got)
		}
	}
	both := append(parsed(t, "do 1;"), parsed(t, "val x = 2; do 3;")...)
	if !reflect.DeepEqual(parsed(t, "do 1; val x = 2; do 3;"), both) {
		t.Error("two programs, one behind the other")
	}
	if len(parsed(t, "")) != 0 {
		t.Error("no program")
	}
}

func TestWrong(t *testing.T) { // P15.2
	for src, want := range map[string]int{
		"do 1 < 2 < 3;": 4, "do 1 + if a then b else c;": 3, "do let in 1 end;": 2, "val x = 1": 4, "do;": 1, ";": 0, "do 1; 2": 3, "x": 0,
		"do": 1, "do a := b := c;": 4, "do (1, 2;": 5, "do (1; 2, 3);": 5, "do (1,);": 4, "do case x of;": 4, "do case x of A B C => 1;": 6, "do case x of true x => 1;": 5,
		"do case x of ~x => 1;": 5, "fun f = 1;": 2, "fun f x = 1 and g = 2;": 7, "datatype = A;": 1, "datatype () t = A;": 2, "datatype t = a;": 3, "datatype t = A of;": 5,
		"datatype t = A of (int, int);": 10, "datatype t = A of (int, int) * int;": 10, "exception E | F;": 2, "root x = 1;": 2, "root x : = 1;": 3, "root x : int;": 4,
		"do let exception E; in 1 end;": 2, "do let val x = 1 in x end;": 6, "do let val x = 1; in x;": 9, "do fn 1 => 2;": 2, "do fn x y => 2;": 3, "do if a then b;": 5,
		"do a handle;": 3, "do a handle E;": 4, "do a | b;": 2, "do f fn x => x;": 2, "do - 1;": 1, "do a b raise c;": 3, "do !;": 2, "do of;": 1, "val X = 1;": 1, "do 'a;": 1, "do a : int;": 2, "do _;": 1,
	} {
		p, at, e := Parse(scan(t, src))
		if p != nil || at != want || e != api.ErrSyntax {
			t.Errorf("%s: at %d, %d; not at %d", src, at, e, want)
		}
	}
	for _, l := range [][]api.Token{{{}}, {{Kind: 99, Text: "do"}}, {{Kind: api.TokName, Text: "do"}}, {{Kind: api.TokSign, Text: "do"}}} {
		if _, at, e := Parse(l); at != 0 || e != api.ErrSyntax {
			t.Error("tokens that are none")
		}
	}
	div := []api.Token{{Kind: api.TokWord, Text: "do"}, {Kind: api.TokInt}, {Kind: api.TokSign, Text: "div"}}
	if _, at, _ := Parse(div); at != 2 {
		t.Error("a sign is no word")
	}
}

// TestPlace asks whether the place that is told is that of the first token which no program has there.
func TestPlace(t *testing.T) { // P15.2
	good := scan(t, `datatype ('a, 'b) t = A | B of ('a, 'b) t * (int -> 'a) ref; exception E of int; root r : int ref = ref 0;
		fun f x y = case x of (A, _) => fn z => (z; y) | B (C 1) => let val a = !y ^ "s"; do a := 1 < 2; in raise E 3 end handle E ~1 => () | _ => if true then (1, 2) else g ~x div 3 and g z = z;`)
	x := uint32(7)
	next := func(n int) int { x = x*1664525 + 1013904223; return int(x>>8) % n }
	for range 20000 {
		l := append([]api.Token(nil), good[:next(len(good))+1]...)
		for range 1 + next(3) {
			at := next(len(l))
			switch next(3) {
			case 0:
				l[at] = good[next(len(good))]
			case 1:
				l = append(l[:at], l[at+1:]...)
			default:
				l = append(l[:at], append([]api.Token{good[next(len(good))]}, l[at:]...)...)
			}
			if len(l) == 0 {
				break
			}
		}
		_, at, e := Parse(l)
		if e != api.ErrSyntax {
			continue
		}
		if _, k, e := Parse(l[:at]); e != api.OK && k != at {
			t.Fatalf("what is ahead of %d is in the way at %d", at, k)
		}
		if at < len(l) {
			if _, k, e := Parse(l[:at+1]); e != api.ErrSyntax || k != at {
				t.Fatalf("it changes something what stands behind")
			}
		}
	}
}

func TestDepth(t *testing.T) { // P15.1
	for src, want := range map[string]int{
		"": 0, "do x;": 2, "do !x;": 3, "do 1; do f (g 1); do 2;": 4, "exception E;": 1, "exception E of int list;": 3, "datatype t = A | B of int * int;": 3,
		"fun f x = 1;": 2, "root r : int = 1 + 2;": 3, "root r : int ref ref ref = 1;": 5, "do let val x = 1; in 2 end;": 4, "do case 1 of A (B (C x)) => 2;": 6, "do (1; 2; 3);": 4, "do ((((1))));": 2,
	} {
		if got := Depth(parsed(t, src)); got != want {
			t.Errorf("%s: %d, not %d", src, got, want)
		}
	}
	if Depth([]api.Dec{{}}) != 1 || Depth([]api.Dec{{Exp: api.Exp{Kids: []api.Exp{n(1)}}}}) != 1 {
		t.Error("a thing of Kind 0")
	}
	if _, at, e := Parse(scan(t, "do "+strings.Repeat("!", 98)+"x;")); e != api.OK || at != 0 {
		t.Error("98")
	}
	if p, at, e := Parse(scan(t, "do "+strings.Repeat("!", 99)+"x;")); p != nil || e != api.ErrDeep || at != 0 {
		t.Error("99")
	}
	if _, at, e := Parse(scan(t, "do "+strings.Repeat("!", 99)+"x")); e != api.ErrSyntax || at != 101 {
		t.Error("wrong and deep")
	}
}

func TestNested(t *testing.T) { // R1: whatever is handed in
	deep := make([]api.Token, 1<<16)
	for i := range deep {
		deep[i] = api.Token{Kind: api.TokSign, Text: "("}
	}
	if _, at, e := Parse(append([]api.Token{{Kind: api.TokWord, Text: "do"}}, deep...)); e != api.ErrSyntax || at != 1<<16+1 {
		t.Error("parentheses")
	}
	src := strings.Repeat("(", 5000) + "1" + strings.Repeat(")", 5000)
	if got := exp(t, src); !reflect.DeepEqual(got, n(1)) {
		t.Error("parentheses say nothing")
	}
}
