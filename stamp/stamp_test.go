package stamp

import (
	"strings"
	"testing"

	"aumbry/api"
	"aumbry/syntax"
	"aumbry/token"
)

// parsed is the type of the last declaration, a root, and the ones ahead of it.
func parsed(t *testing.T, src string) (api.Ty, []api.Dec) {
	t.Helper()
	l, _, _ := token.Scan([]byte(src))
	p, at, e := syntax.Parse(l)
	if e != api.OK || len(p) == 0 {
		t.Fatalf("%s: %d at %d", src, e, at)
	}
	return p[len(p)-1].Ty, p[:len(p)-1]
}

func TestText(t *testing.T) { // P19.1
	list := "datatype 'a list = Nil | Cons of 'a * 'a list; "
	for src, want := range map[string]string{
		"root r : int * string = 1;":                                                                               "int * string",
		list + "root r : int list = 1;":                                                                            "int list; datatype 'a list = Nil | Cons of 'a * 'a list",
		list + "root r : bool ref array * unit = 1;":                                                               "bool ref array * unit",
		"datatype a = A of b ref; datatype b = B of a | C; root r : a = 1;":                                        "a; datatype a = A of b ref; datatype b = B of a | C",
		"datatype b = B of a | C; datatype a = A of b ref; root r : a = 1;":                                        "a; datatype a = A of b ref; datatype b = B of a | C",
		"datatype a = A; datatype b = B; datatype 'a c = C of d; datatype d = D of b; root r : (b c ref * a) = 1;": "b c ref * a; datatype 'a c = C of d; datatype b = B; datatype a = A; datatype d = D of b",
		"datatype ('a, 'b) p = P of 'b * 'a; root r : (int, (unit, bool) p) p = 1;":                                "(int, (unit, bool) p) p; datatype ('a, 'b) p = P of 'b * 'a",
		"datatype a = A; datatype a = B of int -> int; root r : a = 1;":                                            "a; datatype a = A",
		"datatype t = T of int | U of exn -> int; datatype a = A; root r : a = 1;":                                 "a; datatype a = A",
		"datatype int = I; exception E; fun a x = x; root r : int = 1;":                                            "int",
		"datatype 'a t = T of 'a ref * 'a array t | U; root r : unit t t = 1;":                                     "unit t t; datatype 'a t = T of 'a ref * 'a array t | U",
	} {
		ty, datas := parsed(t, src)
		if got, e := Text(ty, datas); got != want || e != api.OK {
			t.Errorf("%s: %q, %d", src, got, e)
		}
	}
}

func TestWrong(t *testing.T) { // P19.1
	for _, src := range []string{
		"root r : int -> int = 1;", "root r : 'a = 1;", "root r : exn = 1;", "root r : int list = 1;", "datatype 'a list = Nil; root r : list = 1;", "root r : ref = 1;", "root r : int int = 1;", "root r : (int, int) array = 1;",
		"datatype t = T of (int -> int) array; root r : t = 1;", "datatype t = T of 'a; root r : t = 1;", "datatype 'a t = T of 'b; root r : int t = 1;", "datatype t = T of u; root r : t = 1;", "datatype t = A | T of u; datatype u = U of v ref; datatype v = V of exn; root r : t = 1;",
		"root r : int * (int -> int) = 1;", "root r : t ref = 1;", "datatype t = A; root r : int t = 1;", "datatype 'a t = A of t; root r : int t = 1;",
	} {
		ty, datas := parsed(t, src)
		if got, e := Text(ty, datas); got != "" || e != api.ErrType {
			t.Errorf("%s: %q, %d", src, got, e)
		}
	}
	for _, ty := range []api.Ty{{}, {Kind: 9}, {Kind: api.TyTuple}, {Kind: api.TyTuple, Kids: []api.Ty{{Kind: api.TyCon, Name: "int"}}}, {Kind: api.TyVar}} {
		if _, e := Text(ty, nil); e != api.ErrType {
			t.Errorf("%v: %d", ty, e)
		}
	}
	exn := []api.Dec{{Kind: api.DecExn, Name: "t"}}
	if _, e := Text(api.Ty{Kind: api.TyCon, Name: "t"}, exn); e != api.ErrType {
		t.Error("an exception is no datatype")
	}
}

// A variable comes to nothing, whatever its kids are, and wherever it stands.
func TestVariableWithKids(t *testing.T) { // P19.1
	con := func(name string, kids ...api.Ty) api.Ty { return api.Ty{Kind: api.TyCon, Name: name, Kids: kids} }
	data := func(name string, vars []string, ty api.Ty) api.Dec {
		return api.Dec{Kind: api.DecData, Name: name, Vars: vars, Cons: []api.Con{{Name: "A", Has: true, Ty: ty}}}
	}
	one := []string{"'a"}
	arrow := api.Ty{Kind: api.TyFun, Kids: []api.Ty{con("int"), con("z")}}
	z, y := data("z", nil, con("int")), data("y", nil, con("int"))
	for _, kids := range [][]api.Ty{{con("z")}, {con("int"), con("z")}, {arrow}, {con("ref", con("z"))}, {{Kind: api.TyTuple, Kids: []api.Ty{con("z"), con("z")}}}, {{Kind: api.TyVar, Name: "'b", Kids: []api.Ty{con("z")}}}, {con("d", con("z"), con("z"))}} {
		v := api.Ty{Kind: api.TyVar, Name: "'a", Kids: kids}
		pair := api.Ty{Kind: api.TyTuple, Kids: []api.Ty{con("ref", v), con("y"), v}}
		for _, datas := range [][]api.Dec{{}, {z}} {
			for _, c := range []struct {
				d    api.Dec
				want string
			}{
				{data("d", one, v), "int d; datatype 'a d = A of 'a"},
				{data("d", one, con("ref", v)), "int d; datatype 'a d = A of 'a ref"},
				{data("d", one, pair), "int d; datatype 'a d = A of 'a ref * y * 'a; datatype y = A of int"},
			} {
				if got, e := Text(con("d", con("int")), append([]api.Dec{c.d, y}, datas...)); got != c.want || e != api.OK {
					t.Errorf("%v: %q, %d, not %q", kids, got, e, c.want)
				}
			}
		}
		if got, e := Text(con("d", con("int")), []api.Dec{data("d", []string{"'b"}, v), z}); got != "" || e != api.ErrType {
			t.Errorf("%v, not of the variables: %q, %d", kids, got, e)
		}
	}
	v := api.Ty{Kind: api.TyVar, Name: "'a", Kids: []api.Ty{con("z")}}
	both := api.Ty{Kind: api.TyTuple, Kids: []api.Ty{v, con("z")}}
	want := "int d; datatype 'a d = A of 'a * z; datatype z = A of int"
	if got, e := Text(con("d", con("int")), []api.Dec{data("d", one, both), z}); got != want || e != api.OK {
		t.Errorf("beside the variable: %q, %d, not %q", got, e, want)
	}
}

func TestDeep(t *testing.T) { // P19.1
	name := strings.Repeat("T", 32)
	long := func(n int) string { // a text of 200 bytes and n more
		return "datatype t = " + strings.Repeat(name+" | ", 5) + strings.Repeat("U", 9+n) + "; root r : t = 1;"
	}
	ty, datas := parsed(t, long(0))
	if got, e := Text(ty, datas); len(got) != 200 || e != api.OK {
		t.Errorf("%d bytes: %d", len(got), e)
	}
	ty, datas = parsed(t, long(1))
	if got, e := Text(ty, datas); got != "" || e != api.ErrDeep {
		t.Errorf("one more: %d", e)
	}
	ty, datas = parsed(t, "datatype u = V of x -> x; datatype t = W of u | "+long(1)[len("datatype t = "):])
	if _, e := Text(ty, datas); e != api.ErrType {
		t.Error("ErrType is ahead of ErrDeep")
	}
	many := "root r : int" + strings.Repeat(" ref", 60) + " = 1;"
	ty, datas = parsed(t, many)
	if _, e := Text(ty, datas); e != api.ErrDeep {
		t.Error("a long type")
	}
}
