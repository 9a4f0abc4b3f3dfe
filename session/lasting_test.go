package session

import (
	"slices"
	"testing"

	"aumbry/api"
	"aumbry/disk"
)

// lastingRoots are roots some of which are one thing, and a function that tells all that they lead to.
const lastingRoots = `datatype 'a list = Nil | Cons of 'a * 'a list; datatype shape = P | Wn of int | Wb of shape * bool; exception WE of int; exception F;
root a : int ref = ref 0; root b : int ref = a; root r : int array = array (4, 1); root l : int list ref = ref Nil; root s : shape ref = ref P; root q : int ref array = array (3, b); root t : int list * int ref = (Cons (1, Nil), a);
fun showList l = case l of Nil => "." | Cons (x, r) => itos x ^ "," ^ showList r;
fun showShape s = case s of P => "p" | Wn n => itos n | Wb (s, b) => showShape s ^ (if b then "t" else "f");
fun showRow i = if i = len r then "" else itos (get (r, i)) ^ " " ^ showRow (i + 1);
fun showCells i = if i = len q then "" else itos (!(get (q, i))) ^ " " ^ showCells (i + 1);
fun dump u = print (itos (!a) ^ " " ^ itos (!b) ^ " " ^ showRow 0 ^ showCells 0 ^ showList (!l) ^ showShape (!s) ^ (case t of (x, y) => showList x ^ itos (!y)));
`

// part makes up something that is done with the roots, and publishes it.
func (w *writer) part() string {
	w.bound = [types][]string{}
	w.bound[aCell] = []string{"a", "b"}
	w.bound[aRow] = []string{"r"}
	do := "()"
	switch w.next(7) {
	case 0:
		do = "l := " + w.exp(aList, 3)
	case 1:
		do = "l := Cons (" + w.exp(aNumber, 2) + ", !l)"
	case 2:
		do = "s := " + w.exp(aShape, 4)
	case 3:
		do = "s := Wb (!s, true)"
	case 4:
		do = "put (q, " + w.pick("0", "1", "2") + ", " + w.exp(aCell, 2) + ")"
	case 5:
		do = "put (r, " + w.pick("0", "1", "3") + ", " + w.exp(aNumber, 2) + ")"
	default:
		do = w.pick("a", "b", "get (q, 0)", "get (q, 2)") + " := " + w.exp(aNumber, 3)
	}
	return "do ((" + do + ") handle _ => a := !a + 1); do dump (); do commit ();\n"
}

// TestCut runs programs one behind the other, and as one.
func TestCut(t *testing.T) { // W5
	for seed := range uint32(60) {
		w := &writer{seed: seed * 104729}
		d, s := booted(t, 300)
		all := lastingRoots
		var lines []string
		for i := range 5 {
			src := ""
			for range 1 + w.next(4) {
				src += w.part()
			}
			all += src
			acts := []api.Act{{After: w.next(300), Kind: api.ActCollect, N: 1 + w.next(20)}, {After: w.next(500), Kind: api.ActEvict, N: w.next(9)}, {After: w.next(900), Kind: api.ActCollect, N: 1 + w.next(90)}}
			got := s.Run([]byte(lastingRoots+src), api.World{Fuel: 1 << 20, Memory: 4000, Acts: acts})
			if got.End != api.EndDone {
				t.Fatalf("seed %d: %v", seed, got)
			}
			lines = append(lines, got.Lines...)
			switch w.next(3) {
			case 0:
				if s = again(t, d); i%2 == 0 {
					s, _ = Boot(d, 2)
				}
			case 1:
				s.Collect(1 + w.next(100))
			}
		}
		_, s = booted(t, 300)
		got := s.Run([]byte(all), api.World{Fuel: 1 << 22, Memory: 1 << 16})
		if !slices.Equal(got.Lines, lines) {
			t.Fatalf("seed %d: %s\n%q, not %q", seed, all, lines, got.Lines)
		}
	}
}

// told is what the roots of a disk lead to.
func told(t *testing.T, d *disk.Disk) string {
	t.Helper()
	got := again(t, d).Run([]byte(lastingRoots+"do dump ();"), plenty)
	if got.End != api.EndDone {
		t.Fatal(got)
	}
	return got.Lines[0]
}

// TestPowerAnywhere lets the power go at any step of programs that are made up.
func TestPowerAnywhere(t *testing.T) { // W2
	for seed := range uint32(300) {
		w := &writer{seed: seed * 15485863}
		d, s := booted(t, 120)
		src := lastingRoots
		for range 6 {
			src += w.part()
		}
		before := told(t, d)
		acts := []api.Act{{After: w.next(300), Kind: api.ActCollect, N: 1 + w.next(20)}, {After: w.next(500), Kind: api.ActEvict, N: w.next(9)}, {After: w.next(900), Kind: api.ActCollect, N: 1 + w.next(90)}}
		d.Arm(1 + w.next(120))
		got := s.Run([]byte(src), api.World{Fuel: 1 << 20, Memory: 4000, Acts: acts})
		if got.End == api.EndFront {
			t.Fatal(got)
		}
		if got.End == api.EndDone {
			for !d.Dead() {
				if _, e := s.Collect(3); e != api.OK && e != api.ErrPower {
					t.Fatal(e)
				}
				if d.Steps() > 3000 {
					d.Off()
				}
			}
		}
		d.Off()
		var keep []int
		for i := range d.Pending() {
			if w.next(2) == 0 {
				keep = append(keep, i)
			}
		}
		d.On(keep, w.next(d.Pending()+2)-1)
		lines := append([]string{before}, got.Lines...)
		n := len(lines)
		found := told(t, d)
		if found != lines[n-1] && (n < 2 || got.End == api.EndDone || found != lines[n-2]) {
			t.Fatalf("seed %d: %s; %q", seed, found, lines)
		}
	}
}
