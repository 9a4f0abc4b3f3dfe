package print

import (
	"math"
	"reflect"
	"strings"
	"testing"

	"aumbry/api"
	"aumbry/syntax"
	"aumbry/token"
)

func parsed(t *testing.T, src string) []api.Dec {
	t.Helper()
	l, _, e := token.Scan([]byte(src))
	if e != api.OK {
		t.Fatalf("%q: %d", src, e)
	}
	p, at, e := syntax.Parse(l)
	if e != api.OK {
		t.Fatalf("%q: %d at %d", src, e, at)
	}
	return p
}

func TestTy(t *testing.T) { // P16.1
	for src, want := range map[string]string{
		"(int -> 'a) list * unit -> int": "(int -> 'a) list * unit -> int",
		"int":                            "int",
		"(a -> b) -> c -> (d)":           "(a -> b) -> c -> d",
		"(a * b) * c":                    "(a * b) * c",
		"a * (b -> c)":                   "a * (b -> c)",
		"(a * b) ref ref":                "(a * b) ref ref",
		"('a, b * c, d -> e) t u":        "('a, b * c, d -> e) t u",
		"(a ref) * b":                    "a ref * b",
	} {
		if got := Ty(parsed(t, "root r : "+src+" = 1;")[0].Ty); got != want {
			t.Errorf("%s: %s", src, got)
		}
	}
	v := api.Ty{Kind: api.TyVar, Num: 7}
	for want, x := range map[string]api.Ty{
		"": {}, "'t7": v, "'x": {Kind: api.TyVar, Name: "'x", Num: 3}, "'t~1": {Kind: api.TyVar, Num: -1},
		"'t7 -> 't7 -> ('t7 -> 't7)": {Kind: api.TyFun, Kids: []api.Ty{v, v, {Kind: api.TyTuple, Kids: []api.Ty{{Kind: api.TyFun, Kids: []api.Ty{v, v}}}}}},
		"(, 't7) f":                  {Kind: api.TyCon, Name: "f", Kids: []api.Ty{{Kind: 9}, v}},
	} {
		if got := Ty(x); got != want {
			t.Errorf("%q, not %q", got, want)
		}
	}
}

func TestPat(t *testing.T) { // P16.2
	for src, want := range map[string]string{
		"A (B 1)": "A (B 1)", "A (B)": "A B", "(x, _, (), (~3, y))": "(x, _, (), (~3, y))", "true": "true", "A (x, B y)": "A (x, B y)", "((x))": "x", "A B": "A B",
	} {
		if got := Pat(parsed(t, "do case a of "+src+" => 1;")[0].Exp.Rules[0].Pat); got != want {
			t.Errorf("%s: %s", src, got)
		}
	}
	c := api.Pat{Kind: api.PatCon, Name: "C", Kids: []api.Pat{{Kind: api.PatUnit}}}
	for want, x := range map[string]api.Pat{
		"": {}, "~9223372036854775808": {Kind: api.PatInt, Num: math.MinInt64}, "D (C ()) (C ())": {Kind: api.PatCon, Name: "D", Kids: []api.Pat{c, c}}, "()": {Kind: api.PatTuple},
	} {
		if got := Pat(x); got != want {
			t.Errorf("%q, not %q", got, want)
		}
	}
}

func TestExp(t *testing.T) { // P16.3
	for src, want := range map[string]string{
		"f (x + 1) ^ \"a\"":              "(f (x + 1)) ^ \"a\"",
		"case x of A (B 1) => fn y => y": "case x of A (B 1) => (fn y => y)",
		"(a; b; c)":                      "(a; (b; c))",
		"(a, (b, c), fn x => f x)":       "(a, (b, c), fn x => f x)",
		"\"a\\n\\\"\\\\ b\"":             "\"a\\n\\\"\\\\ b\"",
		"!(!x)":                          "!(!x)",
		"~1 - ~x":                        "(~1) - (~x)",
		"if a then f b else c":           "if a then f b else c",
		"raise f x":                      "raise f x",
		"(fn x => x) (f y) z":            "((fn x => x) (f y)) z",
		"let val x = 1; do f x; fun g y = y and h z = z; in g x end": "let val x = 1; do f x; fun g y = y and h z = z; in g x end",
		"f x handle E => g y | _ => 1":                               "(f x) handle E => (g y) | _ => 1",
		"case x of A => 1 | B => case y of C => 2":                   "case x of A => 1 | B => (case y of C => 2)",
		"a := !b":                 "a := (!b)",
		"f let do 1; in 2 end ()": "(f let do 1; in 2 end) ()",
		"true":                    "true",
	} {
		if got := Exp(parsed(t, "do "+src+";")[0].Exp); got != want {
			t.Errorf("%s: %s", src, got)
		}
	}
	a, b := api.Exp{Kind: api.ExpVar, Name: "a"}, api.Exp{Kind: api.ExpApp, Kids: []api.Exp{{Kind: api.ExpVar, Name: "b"}}}
	l := []api.Exp{a, b, a, b}
	for _, c := range []struct {
		want string
		e    api.Exp
	}{
		{"", api.Exp{}}, {"", api.Exp{Kind: 16}}, {"if a", api.Exp{Kind: api.ExpIf, Kids: l[:1]}}, {"if a then b", api.Exp{Kind: api.ExpIf, Kids: l[:2]}}, {"if a then b else a", api.Exp{Kind: api.ExpIf, Kids: l}},
		{"fn x => a b a b", api.Exp{Kind: api.ExpFn, Name: "x", Kids: l}}, {"a (b) a (b)", api.Exp{Kind: api.ExpApp, Kids: l}}, {"a + (b) + a + (b)", api.Exp{Kind: api.ExpOp, Name: "+", Kids: l}},
		{"raise a b", api.Exp{Kind: api.ExpRaise, Kids: l[:2]}}, {"case a b of ", api.Exp{Kind: api.ExpCase, Kids: l[:2]}}, {"a (b) handle ", api.Exp{Kind: api.ExpHandle, Kids: l[:2]}},
		{"let in a b end", api.Exp{Kind: api.ExpLet, Kids: l[:2]}}, {"(a; b; a)", api.Exp{Kind: api.ExpSeq, Kids: l[:3]}}, {"~(b)", api.Exp{Kind: api.ExpOp, Name: "~", Kids: l[1:2]}}, {"", api.Exp{Kind: api.ExpOp, Name: "~"}},
		{"~5", api.Exp{Kind: api.ExpInt, Num: -5}}, {"0", api.Exp{Kind: api.ExpInt}}, {"\"\t\xff\x00\"", api.Exp{Kind: api.ExpStr, Text: "\t\xff\x00"}},
	} {
		if got := Exp(c.e); got != c.want {
			t.Errorf("%q, not %q", got, c.want)
		}
	}
}

func TestDec(t *testing.T) { // P16.4, P16.5
	for _, src := range []string{
		"datatype t = A | B of int * int", "datatype 'a t = A of 'a -> 'a", "datatype ('a, 'b) t = C", "exception E", "exception E of (int * int) ref", "val x = f y",
		"fun f x y = g x and g z = 1", "root r : int -> int = fn x => x", "do print \"a\"",
	} {
		d := parsed(t, src+";")
		if got := Dec(d[0]); got != src {
			t.Errorf("%s: %s", src, got)
		}
		if got := Program(append(d, d...)); got != src+";\n"+src+";\n" {
			t.Errorf("%q", got)
		}
	}
	if Program(nil) != "" || Dec(api.Dec{}) != "" || Program([]api.Dec{{}}) != ";\n" {
		t.Error("nothing")
	}
	if got := Dec(api.Dec{Kind: api.DecExn, Cons: []api.Con{{Name: "A"}, {Name: "B", Has: true}}}); got != "exception A | B of " {
		t.Error(got)
	}
	if got := Dec(api.Dec{Kind: api.DecFun, Funs: []api.Fun{{Name: "f"}}}); got != "fun f = " {
		t.Error(got)
	}
}

func TestAgain(t *testing.T) { // what follows: the text is read as the same program
	for _, src := range []string{
		`datatype ('a, 'b) t = A | B of (('a, 'b) t * int) * (int -> ('a -> 'b) -> unit) ref; exception E of int;`,
		`fun f x y = case x of (A, ~3) => (fn z => (z; y)) | B (C 1, (D (E x))) => let val a = !y ^ "s\n\\\""; do a := (1 < 2); in raise E 3 end handle E ~1 => () | _ => if true then (1, 2) else g (~x) div 3 - (4 - 5) and g z = z;`,
		`do (raise x) handle A => 1; do (case x of A => 1) + 2; do (fn x => x) := (if a then b else c); do f (g x) (h y z) !w; do (a ^ b) ^ c ^ d; do - 1;`,
		`do (a := b) := c; do (a < b) < c; do a - (b - c) - d; do (let do 1; in 2 end; 3); do (a handle A => b) handle B => c; do a handle A => (b handle B => c) | C => d;`,
	} {
		src = strings.Replace(src, " do - 1;", "", 1)
		p := parsed(t, src)
		if q := parsed(t, Program(p)); !reflect.DeepEqual(p, q) {
			t.Errorf("%s: %s", src, Program(q))
		}
	}
}

func TestDeep(t *testing.T) { // R1
	e := api.Exp{Kind: api.ExpVar, Name: "x"}
	y := api.Ty{Kind: api.TyCon, Name: "x"}
	for range 1 << 16 {
		e = api.Exp{Kind: api.ExpOp, Name: "!", Kids: []api.Exp{e}}
		y = api.Ty{Kind: api.TyTuple, Kids: []api.Ty{y}}
	}
	if len(Exp(e)) != 3*(1<<16)-1 || len(Ty(y)) != 2*(1<<16)-1 {
		t.Error("deep", len(Exp(e)), len(Ty(y)))
	}
}
