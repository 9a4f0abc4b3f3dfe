package token

import (
	"reflect"
	"slices"
	"strings"
	"testing"

	"aumbry/api"
)

func TestWord(t *testing.T) { // P14.1
	all := strings.Fields("datatype of exception val fun and fn let in end if then else case handle raise root do true false div mod")
	for _, w := range all {
		if !Word(w) {
			t.Errorf("%s", w)
		}
		if Word(w+"x") || Word(strings.ToUpper(w)) || Word(w[1:]) && !slices.Contains(all, w[1:]) {
			t.Errorf("not %s", w)
		}
	}
	for _, w := range []string{"", "x", "print", "=>", "not", "ref"} {
		if Word(w) {
			t.Errorf("%q", w)
		}
	}
}

func named(s string, at int) api.Token { return api.Token{Kind: api.TokName, Text: s, At: at} }
func sign(s string, at int) api.Token  { return api.Token{Kind: api.TokSign, Text: s, At: at} }

func TestScan(t *testing.T) { // P14.2
	for src, want := range map[string][]api.Token{
		"": nil, " \t\r\n": nil, "(**)": nil, "(* a (* b *) \" *)": nil, "(*)*)": nil, "(***)": nil,
		"fun f'a x1":               {{Kind: api.TokWord, Text: "fun"}, named("f", 4), {Kind: api.TokTick, Text: "'a", At: 5}, named("x1", 8)},
		"a:=b(* x (* y *) *)=>~12": {named("a", 0), sign(":=", 1), named("b", 3), sign("=>", 19), sign("~", 21), {Kind: api.TokInt, Num: 12, At: 22}},
		"\"a\\n\\\"\"":             {{Kind: api.TokStr, Text: "a\n\""}},
		"\"\"\"\\\\\" ":            {{Kind: api.TokStr}, {Kind: api.TokStr, Text: "\\", At: 2}},
		"\" ~(* \"":                {{Kind: api.TokStr, Text: " ~(* "}},
		"Ab_c Z true":              {{Kind: api.TokCon, Text: "Ab_c"}, {Kind: api.TokCon, Text: "Z", At: 5}, {Kind: api.TokWord, Text: "true", At: 7}},
		"_x":                       {sign("_", 0), named("x", 1)},
		"00712a":                   {{Kind: api.TokInt, Num: 712}, named("a", 5)},
		"4611686018427387903":      {{Kind: api.TokInt, Num: api.MaxInt}},
		"<=><>=<<>->-:=:":          {sign("<=", 0), sign(">", 2), sign("<>", 3), sign("=", 5), sign("<", 6), sign("<>", 7), sign("->", 9), sign("-", 11), sign(":=", 12), sign(":", 14)},
		"*)":                       {sign("*", 0), sign(")", 1)},
		"( *":                      {sign("(", 0), sign("*", 2)},
		"f(**)x":                   {named("f", 0), named("x", 5)},
		"do_ dO":                   {named("do_", 0), named("dO", 4)},
		"'a'b1_":                   {{Kind: api.TokTick, Text: "'a"}, {Kind: api.TokTick, Text: "'b1_", At: 2}},
	} {
		l, at, e := Scan([]byte(src))
		if at != 0 || e != api.OK || len(l) != len(want) || len(l) > 0 && !reflect.DeepEqual(l, want) {
			t.Errorf("%q: %v, %d, %d", src, l, at, e)
		}
	}
}

func TestSigns(t *testing.T) { // P14.2
	all := strings.Fields("=> -> := <= >= <> ( ) , ; = * | : ! + - ~ < > ^ _")
	if len(all) != len(signs) {
		t.Error("signs")
	}
	for _, s := range all {
		if l, _, e := Scan([]byte(s)); e != api.OK || !reflect.DeepEqual(l, []api.Token{sign(s, 0)}) {
			t.Errorf("%s: %v", s, l)
		}
	}
}

func TestLong(t *testing.T) { // P14.2
	n := strings.Repeat("a", 32)
	for src, ok := range map[string]bool{n: true, n + "a": false, "A" + n: false, "'" + n: true, "'a" + n: false} {
		if _, at, e := Scan([]byte(src)); (e == api.OK) != ok || at != 0 {
			t.Errorf("%s: %d", src, e)
		}
	}
	if l, _, e := Scan([]byte(strings.Repeat(" ", api.MaxSource))); e != api.OK || len(l) != 0 {
		t.Error("the longest source")
	}
	if l, at, e := Scan([]byte(strings.Repeat("?", api.MaxSource+1))); l != nil || at != api.MaxSource || e != api.ErrLex {
		t.Error("too long a source")
	}
}

func TestWrong(t *testing.T) { // P14.2
	for src, want := range map[string]int{
		"a (*)": 2, "4611686018427387904": 0, "99999999999999999999999999": 0, "'A": 0, "\"a": 0, "a.b": 1,
		"'": 0, "a '": 2, "'1": 0, "'_a": 0, "x \"\\t\"": 2, "\"\\": 0, "\"\\\"": 0, "\"a\nb\"": 0, "\"\x7f\"": 0, "\"\xc3\xa9\"": 0, "\x00": 0, "a\x0b": 1,
		"#": 0, "a & b": 2, "(* (* *)": 0, " (*": 1, "(* *) (* x": 6, "@": 0, "\xff": 0, "[": 0, "a $": 2,
	} {
		l, at, e := Scan([]byte(src))
		if l != nil || at != want || e != api.ErrLex {
			t.Errorf("%q: %v, %d, %d", src, l, at, e)
		}
	}
	for c := range 256 { // each byte alone
		_, _, e := Scan([]byte{byte(c)})
		ok := strings.IndexByte("()=,;*|:!+-~<>^_ \t\r\n", byte(c)) >= 0 || c >= '0' && c <= '9' || c >= 'a' && c <= 'z' || c >= 'A' && c <= 'Z'
		if (e == api.OK) != ok {
			t.Errorf("byte %d", c)
		}
	}
}

func TestBlanks(t *testing.T) { // what follows
	src := "fun f x = if x <= 0 then \"a b\" else f (x - 1) ^ 'a"
	l, _, _ := Scan([]byte(src))
	m, _, e := Scan([]byte(strings.ReplaceAll(src, " ", " (* ; *)\n")))
	if e == api.OK && len(l) == len(m) {
		t.Error("the string has a blank as well")
	}
	src = strings.ReplaceAll(src, "a b", "ab")
	l, _, _ = Scan([]byte(src))
	m, _, e = Scan([]byte(strings.ReplaceAll(src, " ", " (* ; *)\n")))
	if e != api.OK || len(l) != len(m) {
		t.Fatal("blanks")
	}
	for i := range l {
		l[i].At, m[i].At = 0, 0
	}
	if !reflect.DeepEqual(l, m) {
		t.Error("blanks say something")
	}
}
