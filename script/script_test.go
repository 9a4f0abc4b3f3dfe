package script

import (
	"encoding/hex"
	"math"
	"reflect"
	"strings"
	"testing"

	"aumbry/api"
)

func made(t *testing.T, sectors int) *Host {
	t.Helper()
	h, e := New(sectors)
	if e != api.OK {
		t.Fatal(e)
	}
	return h
}

// does asks for what a host is to answer; Steps are not looked at, if they are below 0.
func does(t *testing.T, h *Host, e api.Event, want api.Told) {
	t.Helper()
	got := h.Do(e)
	if want.Steps < 0 {
		want.Steps = got.Steps
	}
	if len(got.Lines) == 0 && len(want.Lines) == 0 {
		got.Lines, want.Lines = nil, nil
	}
	if !reflect.DeepEqual(got, want) {
		t.Errorf("%v: %v, not %v", e, got, want)
	}
}

func run(src string) api.Event {
	return api.Event{Kind: api.EvRun, Src: []byte(src), World: api.World{Fuel: 10000, Memory: 10000}}
}

const counter = "root n : int ref = ref 0; do n := !n + 1; do print (itos (!n)); do commit ();"

func TestNew(t *testing.T) { // P28.1
	for _, n := range []int{15, 4097, -1} {
		if h, e := New(n); h != nil || e != api.ErrArg {
			t.Errorf("New(%d)", n)
		}
	}
	does(t, made(t, 16), api.Event{Kind: api.EvRoots}, api.Told{Err: api.ErrState})
}

func TestDo(t *testing.T) { // P28.2
	h := made(t, 100)
	state := api.Told{Err: api.ErrState}
	for _, k := range []uint8{api.EvRun, api.EvCollect, api.EvRoots, api.EvOn} {
		does(t, h, api.Event{Kind: k}, state)
	}
	for _, k := range []uint8{0, 9, 255} {
		does(t, h, api.Event{Kind: k}, api.Told{Err: api.ErrArg})
	}
	does(t, h, api.Event{Kind: api.EvBoot, N: 8}, api.Told{Err: api.ErrCorrupt})
	does(t, h, api.Event{Kind: api.EvFormat}, api.Told{Steps: 4})
	does(t, h, api.Event{Kind: api.EvBoot, N: 1}, api.Told{Err: api.ErrArg, Steps: 4})
	does(t, h, api.Event{Kind: api.EvBoot, N: 8}, api.Told{Steps: 4})
	does(t, h, run("do print \"a\"; do raise Div;"), api.Told{End: api.EndRaised, Text: "Div", Lines: []string{"a"}, Steps: 4})
	does(t, h, run("do x;"), api.Told{End: api.EndFront, Err: api.ErrName, Steps: 4})
	does(t, h, run(counter), api.Told{End: api.EndDone, Lines: []string{"1"}, Steps: -1})
	does(t, h, api.Event{Kind: api.EvRoots}, api.Told{Lines: []string{"n : int ref"}, Steps: -1})
	does(t, h, api.Event{Kind: api.EvCollect, N: 100}, api.Told{Yes: true, Steps: -1})
	does(t, h, api.Event{Kind: api.EvCollect}, api.Told{Err: api.ErrArg, Steps: -1})
	does(t, h, api.Event{Kind: api.EvRoots}, api.Told{Err: api.ErrState, Steps: -1})
	does(t, h, api.Event{Kind: api.EvArm, N: -1}, api.Told{Err: api.ErrArg, Steps: -1})
	does(t, h, api.Event{Kind: api.EvArm, N: 1}, api.Told{Steps: -1})
	does(t, h, api.Event{Kind: api.EvBoot, N: 8}, api.Told{Steps: -1})
	does(t, h, run(counter), api.Told{End: api.EndPower, Lines: []string{"2"}, Steps: -1, Dead: true})
	does(t, h, api.Event{Kind: api.EvRoots}, api.Told{Err: api.ErrState, Steps: -1, Dead: true})
	does(t, h, api.Event{Kind: api.EvBoot, N: 8}, api.Told{Err: api.ErrPower, Steps: -1, Dead: true})
	does(t, h, api.Event{Kind: api.EvFormat}, api.Told{Err: api.ErrPower, Steps: -1, Dead: true})
	does(t, h, api.Event{Kind: api.EvOn, Keep: []int{0}, N: -1}, api.Told{Steps: -1})
	does(t, h, api.Event{Kind: api.EvBoot, N: 8}, api.Told{Steps: -1})
	does(t, h, run(counter), api.Told{End: api.EndDone, Lines: []string{"2"}, Steps: -1})
	does(t, h, api.Event{Kind: api.EvOn}, api.Told{Err: api.ErrState, Steps: -1})
	does(t, h, api.Event{Kind: api.EvRoots}, api.Told{Lines: []string{"n : int ref"}, Steps: -1})
	does(t, h, api.Event{Kind: api.EvOff}, api.Told{Steps: -1, Dead: true})
	does(t, h, api.Event{Kind: api.EvRoots}, api.Told{Err: api.ErrState, Steps: -1, Dead: true})
	does(t, h, api.Event{Kind: api.EvOn}, api.Told{Steps: -1})
	does(t, h, api.Event{Kind: api.EvBoot, N: 8}, api.Told{Steps: -1})
	does(t, h, api.Event{Kind: api.EvFormat}, api.Told{Steps: -1})
	does(t, h, run(counter), api.Told{Err: api.ErrState, Steps: -1})
	var none *Host
	does(t, none, api.Event{Kind: 99}, api.Told{Err: api.ErrNil})
}

func TestForm(t *testing.T) { // P28.3
	all := api.World{Fuel: -3, Memory: 8, Acts: []api.Act{{After: 3, Kind: api.ActEvict, N: 4}, {After: -1, Kind: api.ActCollect, N: -2}}}
	for want, e := range map[string]api.Event{
		"format": {Kind: api.EvFormat}, "off": {Kind: api.EvOff}, "roots": {Kind: api.EvRoots}, "boot 8": {Kind: api.EvBoot, N: 8}, "collect -1": {Kind: api.EvCollect, N: -1}, "arm 0": {Kind: api.EvArm},
		"run 9 8 none 78": {Kind: api.EvRun, World: api.World{Fuel: 9, Memory: 8}, Src: []byte("x")}, "run 0 0 evict.3.4 -": {Kind: api.EvRun, World: api.World{Acts: all.Acts[:1]}}, "on 1,2 -1": {Kind: api.EvOn, Keep: []int{1, 2}, N: -1},
		"run -3 8 evict.3.4,collect.-1.-2 00ff0a": {Kind: api.EvRun, World: all, Src: []byte{0, 255, 10}}, "on none 0": {Kind: api.EvOn}, "on -5 9223372036854775807": {Kind: api.EvOn, Keep: []int{-5}, N: math.MaxInt},
	} {
		if got, err := Form(e); got != want || err != api.OK {
			t.Errorf("Form(%v): %q, %d; not %q", e, got, err, want)
		}
		if got, err := Read(want); err != api.OK || !reflect.DeepEqual(got, e) {
			t.Errorf("Read(%q): %v, %d", want, got, err)
		}
	}
	if got, err := Form(api.Event{Kind: api.EvOn, Keep: []int{}, Src: []byte{}, World: api.World{Acts: []api.Act{}}}); got != "on none 0" || err != api.OK {
		t.Error("lists without anything")
	}
	for _, e := range []api.Event{
		{Kind: api.EvOn, Src: []byte("x")}, {Kind: 9}, {}, {Kind: api.EvOff, N: 1}, {Kind: api.EvRoots, Keep: []int{0}}, {Kind: api.EvBoot, World: api.World{Fuel: 1}}, {Kind: api.EvBoot, World: api.World{Memory: 1}}, {Kind: api.EvBoot, World: api.World{Acts: make([]api.Act, 1)}},
		{Kind: api.EvRun, N: 1}, {Kind: api.EvRun, Keep: []int{1}}, {Kind: api.EvRun, World: api.World{Acts: []api.Act{{Kind: 3}}}}, {Kind: api.EvRun, World: api.World{Acts: []api.Act{{Kind: 1}, {}}}},
	} {
		if got, err := Form(e); got != "" || err != api.ErrArg {
			t.Errorf("Form(%v): %q, %d", e, got, err)
		}
	}
}

func TestRead(t *testing.T) { // P28.3
	for _, s := range []string{
		"", " ", "boot 03", "on 1, -1", "on - 1", "run 1 1 none 7", "boot", "boot 1 ", " boot 1", "boot  1", "boot 1 2", "boot -0", "boot +1", "boot 1x", "boot 9223372036854775808", "boot -", "boot none", "Boot 1", "format 1", "off ", "roots none", "disk 16", "x",
		"on none", "on none none", "on 1,,2 0", "on ,1 0", "on 1 2 3", "on none,1 0", "run 1 1 none", "run 1 1 - -", "run 1 1 none 7G", "run 1 1 none 7A", "run 1 1 none none", "run 1 1 none ", "run 1 1 evict.1 -", "run 1 1 evict.1.2.3 -", "run 1 1 put.1.2 -", "run 1 1 evict.01.2 -", "run 1 1 evict.1.2, -", "run 1 1 .1.2 -", "run 1 none -", "boot 1\n", "#",
	} {
		if e, err := Read(s); err != api.ErrForm || !reflect.DeepEqual(e, api.Event{}) {
			t.Errorf("Read(%q): %v, %d", s, e, err)
		}
	}
}

func TestTell(t *testing.T) { // P28.3
	for want, x := range map[string]api.Told{
		"3 no 0 3 no - none": {Err: api.ErrState, Steps: 3}, "0 no 1 0 no - 61,-": {End: api.EndDone, Lines: []string{"a", ""}}, "0 yes 2 -1 yes 4469760a -": {Yes: true, End: api.EndRaised, Steps: -1, Dead: true, Text: "Div\n", Lines: []string{""}},
	} {
		if got := Tell(x); got != want {
			t.Errorf("%q, not %q", got, want)
		}
	}
}

func TestPlay(t *testing.T) { // P28.4
	for _, c := range []struct {
		text string
		line int
		e    api.Errno
	}{
		{"disk 15", 0, api.ErrArg}, {"# x\nboot 2", 1, api.ErrForm}, {"", 0, api.ErrForm}, {"\n\n#\n", 3, api.ErrForm}, {"#", 1, api.ErrForm}, {"\n", 1, api.ErrForm}, {"disk", 0, api.ErrForm}, {"disk 016", 0, api.ErrForm}, {"disk 16 ", 0, api.ErrForm}, {"\n#a\ndisk 5000\n", 2, api.ErrArg},
		{"disk 16\ndisk 16", 1, api.ErrForm}, {"disk 16\n\nboot", 2, api.ErrForm}, {"disk 15\n\nboot", 2, api.ErrForm}, {"disk 16\n format", 1, api.ErrForm}, {"disk 16\r\n", 0, api.ErrForm}, {"disk 99999999999999999999", 0, api.ErrForm}, {"boot 1\nx", 0, api.ErrForm},
	} {
		if out, line, e := Play(c.text); out != "" || line != c.line || e != c.e {
			t.Errorf("%q: %q, %d, %d", c.text, out, line, e)
		}
	}
	src := hex.EncodeToString([]byte(counter))
	script := "# a script\ndisk 100\n\nformat\nboot 8\nrun 10000 1000 none " + src + "\nrun 10000 1000 evict.3.0,collect.9.5 " + src + "\n#\nroots\noff\non none 0\nboot 8\nroots\ncollect 0"
	want := []string{"format => 0 no 0 4 no - none", "boot 8 => 0 no 0 4 no - none", "run 10000 1000 none " + src + " => 0 no 1 N no - 31", "run 10000 1000 evict.3.0,collect.9.5 " + src + " => 0 no 1 N no - 32",
		"roots => 0 no 0 N no - " + hex.EncodeToString([]byte("n : int ref")), "off => 0 no 0 N yes - none", "on none 0 => 0 no 0 N no - none", "boot 8 => 0 no 0 N no - none", "roots => 0 no 0 N no - " + hex.EncodeToString([]byte("n : int ref")), "collect 0 => 1 no 0 N no - none", ""}
	out, line, e := Play(script)
	got := strings.Split(out, "\n")
	if line != 0 || e != api.OK || len(got) != len(want) {
		t.Fatalf("%q, %d, %d", out, line, e)
	}
	for i := range got {
		if w := strings.Fields(got[i]); strings.Contains(want[i], " N ") {
			w[len(w)-4] = "N"
			got[i] = strings.Join(w, " ")
		}
		if got[i] != want[i] {
			t.Errorf("%q, not %q", got[i], want[i])
		}
	}
	begun := strings.Join(strings.SplitAfter(script, "\n")[:8], "")
	if first, _, _ := Play(begun); first == "" || !strings.HasPrefix(out, first) {
		t.Error("the beginning of a script")
	}
	if more, _, _ := Play(strings.ReplaceAll(script, "\n", "\n\n# idle\n")); more != out {
		t.Error("idle lines")
	}
	if out, line, e := Play("disk 16"); out != "" || line != 0 || e != api.OK {
		t.Error("no events")
	}
}
