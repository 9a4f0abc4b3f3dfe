package session

import (
	"reflect"
	"slices"
	"strconv"
	"strings"
	"testing"

	"aumbry/api"
	"aumbry/disk"
	"aumbry/samples"
	"aumbry/store"
)

// plenty is a world that no sample needs more of.
var plenty = api.World{Fuel: 1 << 22, Memory: 1 << 20}

func booted(t *testing.T, sectors int) (*disk.Disk, *Session) {
	t.Helper()
	d, _ := disk.New(sectors)
	if e := Format(d); e != api.OK {
		t.Fatal(e)
	}
	return d, again(t, d)
}

func again(t *testing.T, d *disk.Disk) *Session {
	t.Helper()
	s, e := Boot(d, 8)
	if e != api.OK {
		t.Fatalf("Boot: %d", e)
	}
	return s
}

func ends(t *testing.T, s *Session, src string, w api.World, want api.Result) {
	t.Helper()
	got := s.Run([]byte(src), w)
	if len(got.Lines) == 0 && len(want.Lines) == 0 {
		got.Lines, want.Lines = nil, nil
	}
	if !reflect.DeepEqual(got, want) {
		t.Errorf("%.200s: %v, not %v", src, got, want)
	}
}

func prints(t *testing.T, s *Session, src string, lines ...string) {
	t.Helper()
	ends(t, s, src, plenty, api.Result{End: api.EndDone, Lines: lines})
}

const counter = "root n : int ref = ref 0; do n := !n + 1; do print (itos (!n)); do commit ();"

func TestExamples(t *testing.T) { // the ten of the whole
	d, s := booted(t, 100)
	steps := d.Steps()
	prints(t, s, `do print "a";`, "a")
	if d.Steps() != steps || len(s.Roots()) != 0 {
		t.Error("something is kept")
	}
	for src, e := range map[string]api.Errno{"val x = x;": api.ErrName, "do 1 + \"a\";": api.ErrType, "do;": api.ErrSyntax, "do \"a": api.ErrLex} {
		ends(t, s, src, plenty, api.Result{End: api.EndFront, Err: e})
	}
	prints(t, s, "do print (itos (4611686018427387903 + 1));", "~4611686018427387904")
	ends(t, s, "do print (itos (1 div 0));", plenty, api.Result{End: api.EndRaised, Text: "Div"})
	prints(t, s, counter, "1")
	prints(t, s, counter, "2")
	ends(t, s, "root n : string = \"\";", plenty, api.Result{End: api.EndFront, Err: api.ErrRoot})
	_, s = booted(t, 100)
	for range 2 {
		prints(t, s, strings.Replace(counter, "do commit ();", "", 1), "1")
	}
	shared := "root p : int ref * int ref = let val x = ref 1; in (x, x) end; do case p of (x, y) => (x := !x + 1; print (itos (!y))); do commit ();"
	d, s = booted(t, 100)
	prints(t, s, shared, "2")
	prints(t, again(t, d), shared, "3")
	d, s = booted(t, 100)
	d.Arm(2)
	ends(t, s, counter, plenty, api.Result{End: api.EndPower, Lines: []string{"1"}})
	d.On(nil, -1)
	prints(t, again(t, d), counter, "1")
	_, s = booted(t, 100)
	ends(t, s, "fun f n = f n; do f 1;", api.World{Fuel: 100000, Memory: 1000}, api.Result{End: api.EndFuel})
}

func TestFront(t *testing.T) { // P27.2
	for src, want := range map[string]api.Errno{
		"#": api.ErrLex, "do": api.ErrSyntax, "do " + strings.Repeat("!", 99) + "x;": api.ErrDeep, "do x;": api.ErrName, "do 1 2;": api.ErrType, "do case 1 of 1 => 2;": api.ErrCover, "do x; #": api.ErrLex, strings.Repeat(" ", 20000): api.ErrLex,
	} {
		c, infos, e := Front([]byte(src))
		if e != want || infos != nil || !reflect.DeepEqual(c, api.Code{}) {
			t.Errorf("%.40s: %d", src, e)
		}
	}
	c, infos, e := Front([]byte("root r : int = 1; exception E;"))
	if e != api.OK || len(c.Funs) != 1 || !reflect.DeepEqual(c.Roots, []api.Stamped{{Name: "r", Stamp: "int"}}) || len(infos) != 6 || infos[5].Name != "E" || infos[5].Place != 3 {
		t.Error(c, infos, e)
	}
}

func TestWorlds(t *testing.T) { // P27.3
	d, s := booted(t, 100)
	front := func(e api.Errno) api.Result { return api.Result{End: api.EndFront, Err: e} }
	for _, w := range []api.World{{Fuel: -1, Memory: 1}, {Memory: 0}, {Memory: -1}, {Memory: 1<<24 + 1}} {
		ends(t, s, "#", w, front(api.ErrArg))
	}
	ends(t, s, "", api.World{Memory: 1}, api.Result{End: api.EndFuel})
	ends(t, s, "", api.World{Fuel: 1, Memory: 1 << 24}, api.Result{End: api.EndDone})
	ends(t, s, "do print \"a\"; do print \"b\";", api.World{Fuel: 4, Memory: 100}, api.Result{End: api.EndFuel, Lines: []string{"a"}})
	ends(t, s, "do print \"a\"; val x = (\"aaaaaaaaaaaaaaaaaaaaaaa\", 1, 2, 3);", api.World{Fuel: 100, Memory: 4}, api.Result{End: api.EndMemory, Lines: []string{"a"}})
	ends(t, s, "do print \"a\"; do abort (); do print \"b\";", plenty, api.Result{End: api.EndAbort, Lines: []string{"a"}})
	ends(t, s, "exception E of int; do raise E 1;", plenty, api.Result{End: api.EndRaised, Text: "E"})
	prints(t, s, counter, "1")
	ends(t, s, "root n : int ref = ref \"\";", plenty, front(api.ErrType))
	ends(t, s, "root n : int = 1;", plenty, front(api.ErrRoot))
	d.Off()
	ends(t, s, "#", plenty, front(api.ErrPower))
	ends(t, s, "#", api.World{}, front(api.ErrArg))
	ends(t, nil, "#", api.World{}, front(api.ErrNil))
}

func TestBoot(t *testing.T) { // P27.1, P27.4
	d, s := booted(t, 100)
	_, e := Boot(d, 1)
	if e != api.ErrArg || Format(nil) != api.ErrNil {
		t.Error("Boot")
	}
	if _, e := Boot(nil, 8); e != api.ErrNil {
		t.Error("Boot of none")
	}
	raw, _ := disk.New(20)
	if _, e := Boot(raw, 8); e != api.ErrCorrupt {
		t.Error("Boot of noughts")
	}
	prints(t, s, "root b : int = 1; root a : string = \"\"; do commit ();")
	want := []api.Stamped{{Name: "a", Stamp: "string"}, {Name: "b", Stamp: "int"}}
	if !slices.Equal(s.Roots(), want) || !slices.Equal(again(t, d).Roots(), want) {
		t.Error("Roots")
	}
	for _, n := range []int{0, -1, 10001} {
		if yes, e := s.Collect(n); yes || e != api.ErrArg {
			t.Error("Collect")
		}
	}
	if yes, e := s.Collect(100); !yes || e != api.OK {
		t.Error("Collect", e)
	}
	var none *Session
	if _, e := none.Collect(0); e != api.ErrNil || none.Roots() != nil {
		t.Error("none")
	}
	d.Off()
	if _, e := s.Collect(1); e != api.ErrPower {
		t.Error("off")
	}
	if _, e := s.Collect(0); e != api.ErrArg {
		t.Error("off, and no units")
	}
	d, s = booted(t, 100)
	d.Arm(2)
	s.Run([]byte(counter), plenty)
	if yes, e := s.Collect(1); yes || e != api.ErrPower {
		t.Error("behind a commit in which the power went", e)
	}
}

func TestSamples(t *testing.T) { // P27.5, W1
	for _, c := range samples.All() {
		_, s := booted(t, 200)
		want := api.Result{End: c.End, Text: c.Text, Lines: c.Lines}
		ends(t, s, c.Source, plenty, want)
		_, s = booted(t, 200)
		acts := []api.Act{{After: -5, Kind: api.ActCollect, N: 5}}
		for i := range 60 {
			acts = append(acts, api.Act{After: i * 3, Kind: 1 + uint8(i%2), N: i % 9}, api.Act{After: 7, Kind: 9})
		}
		ends(t, s, c.Source, api.World{Fuel: 1 << 22, Memory: 1 << 20, Acts: acts}, want)
		for memory := 1; memory < 40; memory++ {
			_, s = booted(t, 200)
			got := s.Run([]byte(c.Source), api.World{Fuel: 1 << 22, Memory: memory})
			if got.End == api.EndMemory {
				if len(got.Lines) > len(c.Lines) || !slices.Equal(got.Lines, c.Lines[:len(got.Lines)]) {
					t.Errorf("%s: %v", c.Source, got)
				}
			} else if got.End != c.End || !slices.Equal(got.Lines, c.Lines) {
				t.Errorf("%s: %v", c.Source, got)
			}
		}
	}
}

const list = "datatype 'a list = Nil | Cons of 'a * 'a list; "

// pushes is a program that puts a number ahead of a list that is kept, and tells it.
func pushes(n int) string {
	return list + "root l : int list ref = ref Nil; root c : int ref array = array (3, ref 0); do l := Cons (" + strconv.Itoa(n) + ", !l); do put (c, 1, ref (!(get (c, 0)) + 1)); do get (c, 0) := !(get (c, 1)); do commit (); " +
		"fun show l = case l of Nil => \".\" | Cons (x, r) => itos x ^ \",\" ^ show r; do print (show (!l)); do print (itos (!(get (c, 2))));"
}

func TestLasting(t *testing.T) { // P27.5, W5
	d, s := booted(t, 400)
	want := "."
	for i := range 30 {
		want = strconv.Itoa(i) + "," + want
		acts := []api.Act{{After: i, Kind: api.ActEvict, N: i}, {After: 20 + i, Kind: api.ActCollect, N: 1 + i%7}, {After: 40, Kind: api.ActCollect, N: 100}, {After: 10, Kind: api.ActEvict, N: 2}}
		ends(t, s, pushes(i), api.World{Fuel: 1 << 20, Memory: 1000 + i, Acts: acts}, api.Result{End: api.EndDone, Lines: []string{want, strconv.Itoa(i + 1)}})
		if i%3 == 0 {
			s = again(t, d)
		}
		if i%4 == 0 {
			s.Collect(1 + i)
		}
	}
	yes, e := s.Collect(10000)
	if e != api.OK {
		t.Error("Collect", yes, e)
	}
	s.Collect(10000)
	st, _ := store.Open(d, 8)
	// the list's cell, 30 pairs and 31 constructors, the array and two cells, two roots' objects
	if n := len(st.Oids()); n != 1+30+31+1+2+2 {
		t.Errorf("%d objects are left", n)
	}
}

func TestSmallMemory(t *testing.T) { // P27.3, P27.5: what is kept comes and goes
	_, s := booted(t, 400)
	for i := range 40 {
		s.Run([]byte(pushes(i)), plenty)
	}
	sum := list + "root l : int list ref = ref Nil; fun sum l a = case l of Nil => a | Cons (x, r) => sum r (a + x); do print (itos (sum (!l) 0));"
	least := 0
	for memory := 1; memory < 700; memory += 3 {
		got := s.Run([]byte(sum), api.World{Fuel: 1 << 20, Memory: memory})
		switch {
		case got.End == api.EndDone && slices.Equal(got.Lines, []string{"780"}):
			if least == 0 {
				least = memory
			}
		case got.End != api.EndMemory || len(got.Lines) > 0:
			t.Fatal(got)
		}
	}
	if least < 200 || least > 690 { // 40 constructors and pairs take 200
		t.Error("memory:", least)
	}
}

func TestSpace(t *testing.T) { // P27.3
	d, s := booted(t, 44)
	grow := list + "root l : int list ref = ref Nil; fun push n = if n = 0 then () else (l := Cons (n, !l); push (n - 1)); do push 20; do commit (); do print \"kept\"; do push 2000; do commit (); do print \"not\";"
	ends(t, s, grow, plenty, api.Result{End: api.EndSpace, Lines: []string{"kept"}})
	count := list + "root l : int list ref = ref Nil; fun len l = case l of Nil => 0 | Cons (_, r) => 1 + len r; do print (itos (len (!l)));"
	prints(t, s, count, "20")
	prints(t, again(t, d), count, "20")
	ends(t, s, "root a : int array = array (1000, 0); do print (itos (len a)); do commit ();", plenty, api.Result{End: api.EndSpace, Lines: []string{"1000"}})
	for sectors := 16; sectors < 40; sectors++ {
		d, s := booted(t, sectors)
		got := s.Run([]byte(counter), plenty)
		if got.End != api.EndDone && got.End != api.EndSpace || !slices.Equal(got.Lines, []string{"1"}) {
			t.Error(sectors, got)
		}
		if roots := again(t, d).Roots(); (got.End == api.EndDone) != (len(roots) == 1) {
			t.Error(sectors, roots)
		}
	}
}

func TestCommits(t *testing.T) { // P27.3, P27.5: which roots are published, and that none is twice
	d, s := booted(t, 200)
	prints(t, s, "root a : int ref = ref 1; do commit (); root b : int ref = a; do a := 2; do commit (); do commit (); root c : int = 3; do a := 5;")
	if got := again(t, d).Roots(); len(got) != 2 {
		t.Error(got)
	}
	prints(t, again(t, d), "root b : int ref = ref 0; root a : int ref = ref 0; do b := !b + 10; do print (itos (!a)); do commit ();", "12")
	st, _ := store.Open(d, 8)
	if len(st.Oids()) != 3 {
		t.Error("objects to which nothing leads are published", len(st.Oids()))
	}
	ends(t, s, "root d : int = 1; do commit (); do raise Div;", plenty, api.Result{End: api.EndRaised, Text: "Div"})
	if len(again(t, d).Roots()) != 3 {
		t.Error("a commit ahead of an exception")
	}
	before := d.Steps()
	ends(t, s, "root e : int = 1; do abort ();", plenty, api.Result{End: api.EndAbort})
	if d.Steps() != before {
		t.Error("abort writes")
	}
}

func TestPower(t *testing.T) { // W2, P27.5
	for n := 1; n < 70; n++ {
		d, s := booted(t, 120)
		count := func(s *Session) string {
			got := s.Run([]byte(list+"root l : int list ref = ref Nil; root c : int ref array = array (3, ref 0); fun show l = case l of Nil => \".\" | Cons (x, r) => itos x ^ \",\" ^ show r; do print (show (!l) ^ itos (!(get (c, 2))));"), plenty)
			if got.End != api.EndDone {
				t.Fatal(got)
			}
			return got.Lines[0]
		}
		told := []string{".0", "0,.1", "1,0,.2", "2,1,0,.3"}
		d.Arm(n)
		i := 0
		for ; i < 3; i++ {
			acts := []api.Act{{After: 3, Kind: api.ActCollect, N: 3}, {After: 30, Kind: api.ActEvict, N: n}, {After: 50, Kind: api.ActCollect, N: 50}}
			if got := s.Run([]byte(pushes(i)), api.World{Fuel: 1 << 20, Memory: 1000, Acts: acts}); got.End != api.EndDone {
				if got.End != api.EndPower {
					t.Fatal(got)
				}
				break
			}
		}
		d.Off()
		var keep []int
		for k := range d.Pending() {
			if (n>>(k%4))&1 == 1 {
				keep = append(keep, k)
			}
		}
		d.On(keep, n%5)
		found := count(again(t, d))
		if found != told[i] && (i == 3 || found != told[i+1]) {
			t.Errorf("%d: %s behind %d", n, found, i)
		}
	}
}

func TestAnyDisk(t *testing.T) { // W4
	d, s := booted(t, 40)
	prints(t, s, pushes(1), "1,.", "1")
	x := uint32(1)
	for range 400 {
		image := d.Image()
		for range 3 {
			x = x*1664525 + 1013904223
			image[int(x>>8)%len(image)][int(x>>24)] ^= byte(x >> 3)
		}
		bad, _ := disk.Load(image)
		s, e := Boot(bad, 4)
		if bad.Steps() != 0 {
			t.Fatal("something is written")
		}
		if e == api.OK {
			s.Run([]byte(pushes(2)), plenty)
		}
	}
}

// TestOtherThings runs programs over roots that have the right stamp, but are made of other things.
func TestOtherThings(t *testing.T) { // R1
	for _, o := range []api.Object{
		{Kind: api.ObjArray}, {Kind: api.ObjStr, Text: "x"}, {Kind: api.ObjCon, Tag: 9}, {Kind: api.ObjRef, Words: []api.Word{{Kind: api.WordInt, Num: 4}}},
		{Kind: api.ObjArray, Words: []api.Word{{Kind: api.WordInt, Num: 4}}}, {Kind: api.ObjArray, Words: []api.Word{{Kind: api.WordOid, Num: 1}}}, {Kind: api.ObjTuple, Words: []api.Word{{Kind: api.WordOid, Num: 1}, {Kind: api.WordOid, Num: 2}}},
	} {
		for _, c := range []struct{ stamp, src string }{
			{"int ref", counter}, {"int", "root n : int = 1; do print (itos (n + 1)); do commit ();"}, {"string", "root n : string = \"\"; do print (n ^ n); do commit ();"},
			{"int list ref; datatype 'a list = Nil | Cons of 'a * 'a list", strings.Replace(strings.Replace(pushes(1), "root l", "root n", 1), "!l", "!n", -1)},
		} {
			d, _ := booted(t, 100)
			st, _ := store.Open(d, 8)
			st.Alloc(o)
			st.Alloc(api.Object{Kind: api.ObjArray, Words: []api.Word{{Kind: api.WordOid, Num: 1}}})
			for root := 1; root < 3; root++ {
				st.SetRoot("n", c.stamp, root)
				st.Commit()
				again(t, d).Run([]byte(c.src), api.World{Fuel: 100000, Memory: 10000})
			}
		}
	}
}
