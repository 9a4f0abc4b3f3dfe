package infer

import (
	"reflect"
	"strconv"
	"strings"
	"testing"

	"aumbry/api"
	"aumbry/print"
	"aumbry/syntax"
	"aumbry/token"
)

func parsed(t *testing.T, src string) []api.Dec {
	t.Helper()
	l, at, e := token.Scan([]byte(src))
	if e != api.OK {
		t.Fatalf("%.300s: %d at %d", src, e, at)
	}
	p, at, e := syntax.Parse(l)
	if e != api.OK {
		t.Fatalf("%.300s: %d at %d", src, e, at)
	}
	return p
}

// typesOf are the types of a program as a text.
func typesOf(t *testing.T, src string) string {
	t.Helper()
	out, at, e := Program(parsed(t, src))
	if e != api.OK || at != 0 {
		t.Errorf("%.300s: %d at %d", src, e, at)
	}
	var l []string
	for _, x := range out.Types {
		l = append(l, print.Ty(x))
	}
	return strings.Join(l, "; ")
}

func TestTypes(t *testing.T) { // P20.1, P20.2, P20.3
	for src, want := range map[string]string{
		"fun id x = x; val a = id 3; val b = id \"s\";": "'t0 -> 't0; int; string",
		"val r = ref (fn x => x); do (!r) 3;":           "(int -> int) ref",
		"val r = ref (fn x => x);":                      "('t0 -> 't0) ref",
		"fun k x y = x;":                                "'t0 -> 't1 -> 't0",
		"fun s f g x = f x (g x);":                      "('t0 -> 't1 -> 't2) -> ('t0 -> 't1) -> 't0 -> 't2",
		"fun even n = if n = 0 then true else odd (n - 1) and odd n = not (even n);":                                                                                              "int -> bool; int -> bool",
		"datatype 'a list = Nil | Cons of 'a * 'a list; fun map f l = case l of Nil => Nil | Cons (x, r) => Cons (f x, map f r);":                                                 "('t0 -> 't1) -> 't0 list -> 't1 list",
		"datatype 'a list = Nil | Cons of 'a * 'a list; val n = Nil; val c = Cons; val o = Cons (1, n); val p = (Nil, fn x => x); do case p of (_, f) => (f 1; f 1);":             "'t0 list; 't0 * 't0 list -> 't0 list; int list; 't0 list * ('t1 -> 't1)",
		"datatype ('a, 'b) e = L of 'a | R of 'b; val x = L 1; val y = R x;":                                                                                                      "(int, 't0) e; ('t0, (int, 't1) e) e",
		"exception E of int; fun f x = raise E x; val g = E; val h = Div;":                                                                                                        "int -> 't0; int -> exn; exn",
		"val p = print; val c = commit; val a = array; val g = get; val u = put; val l = len; val s = same; val z = size; val r = ref; val n = not; val i = itos; val b = abort;": "string -> unit; unit -> unit; int * 't0 -> 't0 array; 't0 array * int -> 't0; 't0 array * int * 't0 -> unit; 't0 array -> int; string * string -> bool; string -> int; 't0 -> 't0 ref; bool -> bool; int -> string; unit -> unit",
		"val x = (1; \"a\"); val y = (x ^ \"b\", (), ~3 + 4 div 5, 1 < 2);":                                                                                                       "string; string * unit * int * bool",
		"val f = fn x => let val y = x; fun g z = (y, z); do print \"\"; in (g 1, g true) end;":                                                                                   "'t0 -> ('t0 * int) * ('t0 * bool)",
		"fun f x = let val g = fn y => (x, y); in (g 1, g \"\") end;":                                                                                                             "'t0 -> ('t0 * int) * ('t0 * string)",
		"fun f r = (r := 1; !r);": "int ref -> int",
		"root r : int ref array * unit = (array (3, ref 1), ()); val x = case r of (a, _) => !(get (a, 0));": "int ref array * unit; int",
		"val x = 1 handle Div => 2 | _ => 3; fun f g = g () handle Div => 0;":                                "int; (unit -> int) -> int",
		"fun f x = case x of (1, true, ()) => \"a\" | (_, y, z) => \"b\";":                                   "int * bool * unit -> string",
		"val f = (fn x => x) (fn y => y);":                                                                   "'t0 -> 't0",
		"val f = (fn x => x) (fn y => y); do f 1; do f 2;":                                                   "int -> int",
		"val x = 1; val x = \"\"; val y = x;":                                                                "int; string; string",
		"fun f x = f x;":                                                                                     "'t0 -> 't1",
		"val f = let val g = fn x => x; in g end;":                                                           "'t0 -> 't0",
		"val w = ref 1; val f = fn x => (w := x; x);":                                                        "int ref; int -> int",
		"val u = let val x = 1; in fn y => y end; do u 1;":                                                   "int -> int",
		"val c = (fn x => x, 1); val d = case c of (f, n) => f n;":                                           "('t0 -> 't0) * int; int",
		"": "",
	} {
		if got := typesOf(t, src); got != want {
			t.Errorf("%s: %s, not %s", src, got, want)
		}
	}
}

func TestErrors(t *testing.T) { // P20.1 to P20.4
	list := "datatype 'a list = Nil | Cons of 'a * 'a list; "
	type wrong struct {
		at int
		e  api.Errno
	}
	for src, want := range map[string]wrong{
		"val x = x;": {0, api.ErrName}, "fun f x = f;": {0, api.ErrType}, "do case true of true => 1;": {0, api.ErrCover}, "root r : int -> int = fn x => x;": {0, api.ErrType},
		"do 1; do 1 + \"a\";": {1, api.ErrType}, "do A;": {0, api.ErrName}, "do 1 2;": {0, api.ErrType}, "do if 1 then 2 else 3;": {0, api.ErrType}, "do if true then 2 else \"\";": {0, api.ErrType},
		"do fn x => x x;": {0, api.ErrType}, "do raise 1;": {0, api.ErrType}, "do 1 := 2;": {0, api.ErrType}, "do ref 1 := \"\";": {0, api.ErrType}, "do !1;": {0, api.ErrType}, "do \"a\" < \"b\";": {0, api.ErrType}, "do 1 ^ \"\";": {0, api.ErrType}, "do \"\" = \"\";": {0, api.ErrType},
		"fun f x x = 1;": {0, api.ErrName}, "fun f x = 1 and f y = 2;": {0, api.ErrName}, "fun f x = y and g y = 1;": {0, api.ErrName}, "fun f x = (f 1; f \"\");": {0, api.ErrType},
		"datatype int = A;": {0, api.ErrName}, "datatype exn = A;": {0, api.ErrName}, "datatype t = A; datatype t = B;": {1, api.ErrName}, "datatype ('a, 'a) t = A;": {0, api.ErrName}, "datatype t = A | A;": {0, api.ErrName}, "datatype t = A; exception A;": {1, api.ErrName},
		"datatype t = Div;": {0, api.ErrName}, "exception E of u;": {0, api.ErrName}, "exception E of 'a;": {0, api.ErrName}, "datatype t = A of 'a;": {0, api.ErrName}, "datatype 'a t = A of t;": {0, api.ErrType}, "datatype t = A of int int;": {0, api.ErrType}, "datatype t = A of u int;": {0, api.ErrType}, "datatype t = A of int ref u;": {0, api.ErrName}, "datatype t = A of ref;": {0, api.ErrType},
		"datatype t = A of u; datatype u = B;": {0, api.ErrName},
		"root r : int = 1; root r : int = 2;":  {1, api.ErrName}, "root r : 'a = 1;": {0, api.ErrName}, "root r : exn = Div;": {0, api.ErrType}, "root r : int = \"\";": {0, api.ErrType}, "root r : u = 1;": {0, api.ErrName}, "root r : int = r;": {0, api.ErrName},
		"do case 1 of 1 => 2;": {0, api.ErrCover}, "do case 1 of _ => 2 | 1 => 3;": {0, api.ErrCover}, "do case 1 of x => 2 | y => \"\";": {0, api.ErrType}, "do case 1 of () => 2 | _ => 3;": {0, api.ErrType}, "do case (1, 2) of (x, x) => 1;": {0, api.ErrName},
		"do case 1 of (x, x) => 1;": {0, api.ErrName}, "do case 1 of (x, (A, x)) => 1;": {0, api.ErrName}, list + "do case 1 of (x, (Nil y, x)) => 1;": {1, api.ErrType}, list + "do case 1 of Cons => 1;": {1, api.ErrType}, list + "do case 1 of Nil => 1;": {1, api.ErrType}, list + "do case Nil of Cons (1, Cons ((), _)) => 1 | _ => 2;": {1, api.ErrType},
		"do 1 handle 2 => 3;": {0, api.ErrType}, "do 1 handle Div => \"\";": {0, api.ErrType}, "do 1 handle _ => 2 | Div => 3;": {0, api.ErrCover}, "do 1 handle Div => 2 | Div => 3;": {0, api.ErrCover}, "do (x; 1);": {0, api.ErrName}, "do let val x = 1; in y end;": {0, api.ErrName}, "do (let val x = 1; in x end; x);": {0, api.ErrName},
		"do fn x => let val y = x; in (y 1; y \"\") end;": {0, api.ErrType}, "val r = ref (fn x => x); do (!r) 1; do (!r) \"\";": {2, api.ErrType}, "val f = (fn x => x) (fn y => y); do f 1; do f \"\";": {2, api.ErrType},
		"do \"a\" + x;": {0, api.ErrType}, "do 1 + x;": {0, api.ErrName}, "do 1 x;": {0, api.ErrName}, "do 1 := x;": {0, api.ErrName}, "do case 1 of \"a\" => 1;": {},
		list + "val x = Cons 1;": {1, api.ErrType}, "do Div 1;": {0, api.ErrType}, "do true false;": {0, api.ErrType}, "fun f x = case x of (g, y) => (g 1, g \"\");": {0, api.ErrType}, "fun f x = 1 and g y = (f 1; f \"\");": {0, api.ErrType},
	} {
		if want == (wrong{}) {
			continue
		}
		out, at, e := Program(parsed(t, src))
		if e != want.e || at != want.at || !reflect.DeepEqual(out, Out{}) {
			t.Errorf("%s: %d at %d, not %d at %d", src, e, at, want.e, want.at)
		}
	}
}

func TestInfos(t *testing.T) { // P20.1, P20.2
	out, _, _ := Program(parsed(t, "exception E of int; datatype 'a t = A | B of 'a; exception F;"))
	want := []api.Info{{Name: "false", Of: "bool", Many: 2}, {Name: "true", Of: "bool", Place: 1, Many: 2}, {Name: "Div", Of: "exn"}, {Name: "Subscript", Of: "exn", Place: 1}, {Name: "Size", Of: "exn", Place: 2},
		{Name: "E", Of: "exn", Place: 3, Has: true}, {Name: "A", Of: "t", Many: 2}, {Name: "B", Of: "t", Place: 1, Many: 2, Has: true}, {Name: "F", Of: "exn", Place: 4}}
	if !reflect.DeepEqual(out.Infos, want) {
		t.Error(out.Infos)
	}
}

func TestRoots(t *testing.T) { // P20.1, P20.2
	out, _, _ := Program(parsed(t, "datatype t = A of int; root b : t ref = ref (A 1); root a : int = 1;"))
	if want := []api.Stamped{{Name: "b", Stamp: "t ref; datatype t = A of int"}, {Name: "a", Stamp: "int"}}; !reflect.DeepEqual(out.Roots, want) {
		t.Error(out.Roots)
	}
	src := ""
	for i := range api.MaxRoots {
		src += "root r" + strconv.Itoa(i) + " : int = 1;"
	}
	typesOf(t, src)
	if _, at, e := Program(parsed(t, src+"root x : u = 1;")); at != api.MaxRoots || e != api.ErrDeep {
		t.Error("too many roots")
	}
	if _, _, e := Program(parsed(t, src+"root r3 : u = 1;")); e != api.ErrName {
		t.Error("a root twice")
	}
	if _, _, e := Program(parsed(t, "root r : int"+strings.Repeat(" ref", 60)+" = 1;")); e != api.ErrDeep {
		t.Error("a long stamp")
	}
}

func TestDeep(t *testing.T) { // P20.2, P20.3: types that are too great
	src := "val a = (1, 1);"
	for i := range 9 {
		src += "val a = (a, a);"
		if i == 6 {
			typesOf(t, src)
		}
	}
	if _, at, e := Program(parsed(t, src)); e != api.ErrDeep || at != 8 {
		t.Errorf("doubled: %d at %d", e, at)
	}
	ones := strings.Repeat("1, ", 1100)
	if got := typesOf(t, "fun i x = x; val t = ("+ones+"i 1);"); got != "'t0 -> 't0; " {
		t.Error("what is not closed may be too great")
	}
	if _, at, e := Program(parsed(t, "fun i x = x; val t = ("+ones+"i 1); val x = 1;")); e != api.ErrDeep || at != 2 {
		t.Errorf("a name that is bound: %d at %d", e, at)
	}
	if _, at, e := Program(parsed(t, "fun i x = x; do i ("+ones+"1);")); e != api.ErrDeep || at != 1 {
		t.Errorf("a call: %d at %d", e, at)
	}
	many := strings.Repeat("t, ", 500)
	src = "fun i x = x; val t = (" + many[:0] + strings.Repeat("1, ", 500) + "i 1);"
	for range 6 {
		src += "val t = (" + many + "i 1);"
	}
	typesOf(t, src)
	refs := func(x string) string { return strings.Repeat("(ref ", 60) + x + strings.Repeat(")", 60) }
	if _, at, e := Program(parsed(t, "val a = "+refs("1")+"; val b = "+refs("a")+";")); e != api.ErrDeep || at != 1 {
		t.Errorf("ref of ref: %d at %d", e, at)
	}
	pats := ""
	for i := range 201 {
		pats += strconv.Itoa(i) + " => 1 | "
	}
	if _, _, e := Program(parsed(t, "do case 1 of "+pats+"_ => 2;")); e != api.ErrDeep {
		t.Error("too many patterns")
	}
	growing := "val f = fn x => (x, x);"
	for range 12 {
		growing += "val f = fn x => f (f x);"
	}
	if _, _, e := Program(parsed(t, growing)); e != api.ErrDeep {
		t.Error("growing")
	}
}

func TestRenamed(t *testing.T) { // P20.5
	a := "fun f x = let val y = fn z => (x, z); in (y 1, y (fn x => x)) end; val r = ref (fn q => q); val s = f r; fun g x = case x of (x, y) => y x;"
	b := "fun h a = let val b = fn c => (a, c); in (b 1, b (fn d => d)) end; val unused = ref 1; fun nobody x = x; val i = ref (fn j => j); val k = h i; fun l m = case m of (n, o) => o n;"
	got := strings.Split(typesOf(t, b), "; ")
	if want := typesOf(t, a); strings.Join(append([]string{got[0]}, got[3:]...), "; ") != want {
		t.Errorf("%s; %s", got, want)
	}
}

func TestAnything(t *testing.T) { // R1
	for _, d := range []api.Dec{{}, {Kind: 9}, {Kind: api.DecFun, Funs: []api.Fun{{}}}, {Kind: api.DecRoot}, {Kind: api.DecData}, {Kind: api.DecExn, Cons: []api.Con{{Has: true}}}, {Kind: api.DecVal}} {
		Program([]api.Dec{d, d})
	}
	for kind := range uint8(20) {
		for n := range 4 {
			e := api.Exp{Kind: kind, Kids: make([]api.Exp, n), Rules: make([]api.Rule, n), Decs: make([]api.Dec, n)}
			for _, name := range []string{"+", "!", ":=", "x"} {
				e.Name = name
				Program([]api.Dec{{Kind: api.DecDo, Exp: e}})
			}
			p := api.Pat{Kind: kind, Name: "true", Kids: make([]api.Pat, n)}
			Program([]api.Dec{{Kind: api.DecDo, Exp: api.Exp{Kind: api.ExpCase, Kids: []api.Exp{{Kind: api.ExpUnit}}, Rules: []api.Rule{{Pat: p, Exp: e}}}}})
			Program([]api.Dec{{Kind: api.DecRoot, Ty: api.Ty{Kind: kind, Name: "ref", Kids: make([]api.Ty, n)}}})
		}
	}
}
