// Package samples holds programs for tests, with what they print and how they end. It is no layer, and no layer calls it.
package samples

import "aumbry/api"

// Sample is a program and what becomes of it.
type Sample struct {
	Source string
	Lines  []string
	End    uint8
	Text   string
}

// list is a datatype that many samples have.
const list = "datatype 'a list = Nil | Cons of 'a * 'a list; "

// done is a sample that comes to its end.
func done(source string, lines ...string) Sample {
	return Sample{Source: source, Lines: lines, End: api.EndDone}
}

// raised is a sample that ends by an exception.
func raised(source, name string, lines ...string) Sample {
	return Sample{Source: source, Lines: lines, End: api.EndRaised, Text: name}
}

// All lists the samples.
func All() []Sample {
	l := numbers()
	l = append(l, functions()...)
	l = append(l, patterns()...)
	l = append(l, exceptions()...)
	return append(l, things()...)
}

// numbers are samples of numbers, strings and truths.
func numbers() []Sample {
	return []Sample{
		done(""),
		done(`do print "a";`, "a"),
		done(`do print (itos (4611686018427387903 + 1)); do print (itos (~4611686018427387903 - 2));`, "~4611686018427387904", "4611686018427387903"),
		done(`do print (itos (7 div 2)); do print (itos (~7 div 2)); do print (itos (7 mod ~2)); do print (itos (~7 mod 2));`, "3", "~3", "1", "~1"),
		done(`do print (itos ((~4611686018427387903 - 1) div ~1)); do print (itos (4611686018427387903 * 2)); do print (itos (~(~4611686018427387903 - 1)));`, "~4611686018427387904", "~2", "~4611686018427387904"),
		raised(`do print (itos (1 div 0));`, "Div"),
		raised(`do print (itos (1 mod (1 - 1)));`, "Div"),
		done(`fun t b = if b then print "y" else print "n"; do (t (1 < 2); t (2 < 2); t (2 <= 2); t (3 <= 2); t (3 > 2); t (2 > 2); t (2 >= 2); t (1 >= 2); t (1 = 1); t (1 = 2); t (1 <> 2); t (1 <> 1); t (not true));`,
			"y", "n", "y", "n", "y", "n", "y", "n", "y", "n", "y", "n", "n"),
		done(`do print ("a" ^ "" ^ "b\n\"\\"); do print (itos (size "abc" + size "")); do print (if same ("ab", "a" ^ "b") then "same" else "other"); do print (if same ("a", "b") then "same" else "other");`, "ab\n\"\\", "3", "same", "other"),
		done(`val x = 1; val y = x + 1; val x = y * 10; do print (itos (x + y));`, "22"),
		done(`do print (itos (~3 - 4)); do print (itos 0);`, "~7", "0"),
	}
}

// functions are samples of functions and names.
func functions() []Sample {
	return []Sample{
		done(`fun f x y = x - y; val g = f 10; do print (itos (g 3)); do print (itos (f 1 2));`, "7", "~1"),
		done(`fun even n = if n = 0 then true else odd (n - 1) and odd n = if n = 0 then false else even (n - 1); do print (if even 10 then "even" else "odd"); do print (if odd 10 then "odd" else "even");`, "even", "even"),
		done(`fun fact n = if n = 0 then 1 else n * fact (n - 1); do print (itos (fact 15));`, "1307674368000"),
		done(`val f = let val a = 1; fun g x = x + a; val a = 100; do print "in"; in fn x => g (x + a) end; do print (itos (f 5));`, "in", "106"),
		done(`fun twice f x = f (f x); val add = fn a => fn b => a + b; do print (itos (twice (twice (add 3)) 1));`, "13"),
		done(`val p = print; do p "x"; val r = ref print; do (!r) "y"; val a = array; val t = (2, 7); val v = a t; do print (itos (get (v, 1))); do put (v, 0, 9); val q = (v, 0); do print (itos (get q + len v)); val s = same; do print (if s ("a", "a") then "t" else "f");`, "x", "y", "7", "11", "t"),
		done(`val print = fn s => print ("<" ^ s ^ ">"); do print "z"; fun not x = x; do print (if not true then "a" else "b");`, "<z>", "<a>"),
		done(`fun f x = let fun g y = h (x + y) and h z = if z > 20 then z else g z; in g 1 end; do print (itos (f 3));`, "22"),
		done(`do (print "1"; print "2"; print "3"); do print (let do print "4"; in (print "5"; "6") end);`, "1", "2", "3", "4", "5", "6"),
		done(`fun say s = (print s; 1); do print (itos (say "a" + say "b")); val t = (say "c", say "d"); fun f x = (print "called"; fn y => x); do f (say "e") (say "f");`, "a", "b", "2", "c", "d", "e", "called", "f"),
		done(`fun a x = fn y => fn z => x + y * z; val b = a 1; val c = b 2; do print (itos (c 3 + c 4));`, "16"),
		done(`fun loop n acc = if n = 0 then acc else loop (n - 1) (acc + n); do print (itos (loop 1000 0));`, "500500"),
	}
}

// patterns are samples of cases.
func patterns() []Sample {
	return []Sample{
		done(list+`fun len l = case l of Nil => 0 | Cons (_, r) => 1 + len r; fun map f l = case l of Nil => Nil | Cons (x, r) => Cons (f x, map f r); fun show l = case l of Nil => "." | Cons (x, r) => itos x ^ "," ^ show r; val l = Cons (1, Cons (2, Cons (3, Nil))); do print (show (map (fn x => x * x) l)); do print (itos (len l));`, "1,4,9,.", "3"),
		done(`fun f x = case x of 0 => "zero" | ~1 => "minus" | 7 => "seven" | n => itos n; do (print (f 0); print (f (~1)); print (f 7); print (f 12));`, "zero", "minus", "seven", "12"),
		done(`fun f p = case p of (true, 1) => "a" | (false, n) => "b" ^ itos n | (_, 2) => "c" | (x, _) => "d"; do (print (f (true, 1)); print (f (false, 1)); print (f (true, 2)); print (f (true, 3)));`, "a", "b1", "c", "d"),
		done(`datatype t = A | B of int | C of t * t; fun d t = case t of A => 1 | C (A, C (B x, y)) => x + d y | C (B 1, z) => 100 + d z | C (x, B y) => y + d x | C (x, y) => d x + d y | B x => x * 1000; do print (itos (d (C (A, C (B 5, A))))); do print (itos (d (C (B 1, A)))); do print (itos (d (C (C (A, A), B 30)))); do print (itos (d (C (B 2, A)))); do print (itos (d (C (A, C (A, A)))));`, "6", "101", "32", "2001", "3"),
		done(`val x = 5; fun f p = case p of (x, 1) => x | (y, 2) => x + y | _ => x; do print (itos (f (1, 1) + f (10, 2) * 100 + f (7, 7) * 10000));`, "51501"),
		done(`datatype w = W of int * (int * int); fun f w = case w of W (a, (b, c)) => a * 100 + b * 10 + c; do print (itos (f (W (1, (2, 3))))); val g = W; do print (itos (f (g (4, (5, 6)))));`, "123", "456"),
		done(`do case () of () => print "unit"; do case (1, ((), 2)) of (a, ((), b)) => print (itos (a + b)); do case true of x => print (if x then "t" else "f");`, "unit", "3", "t"),
		done(`datatype ('a, 'b) e = L of 'a | R of 'b; fun f e = case e of L 1 => "one" | R (s, true) => s | L _ => "l" | R (s, _) => s ^ s; do (print (f (L 1)); print (f (L 2)); print (f (R ("s", true))); print (f (R ("s", false))));`, "one", "l", "s", "ss"),
		done(`fun f p = case p of (1, 2, 3) => "a" | (1, 2, _) => "b" | (1, x, 3) => "c" ^ itos x | (_, _, 3) => "d" | (x, y, z) => itos (x + y + z); do (print (f (1, 2, 3)); print (f (1, 2, 4)); print (f (1, 9, 3)); print (f (2, 2, 3)); print (f (7, 8, 9)));`, "a", "b", "c9", "d", "24"),
	}
}

// exceptions are samples of what is raised and handled.
func exceptions() []Sample {
	return []Sample{
		done(`exception E of int; exception F; fun f x = if x = 0 then raise F else raise E x; do print (itos (f 3 handle E n => n + 1 | F => 0)); do print (itos (f 0 handle E n => n + 1 | F => 10));`, "4", "10"),
		raised(`exception E of int; do (print "a"; raise E 3; print "b");`, "E", "a"),
		raised(`exception E; exception F; do ((raise E) handle F => print "no");`, "E"),
		done(`exception E; exception F; do (((raise E) handle F => print "no") handle E => print "yes");`, "yes"),
		done(`do print (itos ((1 div 0) handle Div => ~1)); do print (itos (get (array (3, 1), 3) handle Subscript => ~2)); do print (itos (len (array (~1, 1)) handle Size => ~3)); do print (itos (len (array (1001, 1)) handle Size => ~4)); do print (itos (len (array (1000, 1)))); do put (array (2, 0), ~1, 5) handle Subscript => print "s";`, "~1", "~2", "~3", "~4", "1000", "s"),
		done(`exception E of int * string; fun f e = (raise e) handle E (1, s) => s | E (n, s) => s ^ itos n | Div => "div" | _ => "else"; do (print (f (E (1, "a"))); print (f (E (2, "b"))); print (f Div); print (f Size));`, "a", "b2", "div", "else"),
		done(`exception E; fun f n = if n = 0 then raise E else 1 + f (n - 1); do print (itos (f 50 handle E => 7)); val x = (1 + ((raise E) handle E => 2)) * 10; do print (itos x);`, "7", "30"),
		raised(`fun f x = raise x; val e = Subscript; do print "ahead"; do f e; do print "behind";`, "Subscript", "ahead"),
		done(`exception E; val r = ref 0; do ((r := 1; raise E; r := 2) handle E => r := !r + 10); do print (itos (!r)); do ((raise E) handle E => ((raise Div) handle Div => print "in"));`, "11", "in"),
		raised(`exception E; do ((raise E) handle E => raise Size);`, "Size"),
		done(`val f = (fn x => x + 1) handle Div => fn x => x; do print (itos (f 1)); val t = (1, 2) handle _ => (3, 4); do case t of (a, b) => print (itos (a + b));`, "2", "3"),
	}
}

// things are samples of cells, arrays and roots.
func things() []Sample {
	return []Sample{
		done(`val r = ref 1; val s = r; do s := !r + 1; do print (itos (!r)); val a = array (3, ref 0); do get (a, 0) := 5; do print (itos (!(get (a, 2))));`, "2", "5"),
		done(`root n : int ref = ref 0; do n := !n + 1; do print (itos (!n)); do commit ();`, "1"),
		done(`root p : int ref * int ref = let val x = ref 1; in (x, x) end; do case p of (x, y) => (x := !x + 1; print (itos (!y)));`, "2"),
		done(list+`root l : int list ref = ref Nil; fun push x = l := Cons (x, !l); do push 1; do push 2; do commit (); fun sum l = case l of Nil => 0 | Cons (x, r) => x + sum r; do print (itos (sum (!l)));`, "3"),
		{Source: `do print "a"; do abort (); do print "b";`, Lines: []string{"a"}, End: api.EndAbort},
		{Source: `fun f x = (print x; if same (x, "aaa") then abort () else f (x ^ "a")); do f "";`, Lines: []string{"", "a", "aa", "aaa"}, End: api.EndAbort},
		done(`val a = array (5, 0); fun fill i = if i = len a then () else (put (a, i, i * i); fill (i + 1)); do fill 0; fun sum i = if i < 0 then 0 else get (a, i) + sum (i - 1); do print (itos (sum (len a - 1)));`, "30"),
		done(`val c = commit; do c (); do commit (); do print "c";`, "c"),
		done(`root f : int = (print "made"; 3); root g : int array = array (f, f); do print (itos (get (g, 2)));`, "made", "3"),
	}
}
