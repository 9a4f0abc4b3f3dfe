package code

import "aumbry/api"

// state is how a place is come to.
type state struct {
	come   bool
	height int64
	tries  int // which row of tries is open; 0: none
}

// try is a row of tries: the last one, and the row ahead of it.
type try struct {
	ahead int
	place int
}

// walk goes through all places of a function that are come to.
type walk struct {
	*checker
	fun   int
	at    []state
	work  []int
	rows  []try // the rows of tries that there are; the first one is empty
	known map[try]int
}

// all goes through the places.
func (w *walk) all() {
	first := int64(1)
	if w.fun == 0 {
		first = 0
	}
	w.come(0, first, 0)
	for len(w.work) > 0 {
		at := w.work[len(w.work)-1]
		w.work = w.work[:len(w.work)-1]
		w.step(at, w.code.Funs[w.fun][at])
	}
}

// come comes to a place, as it was come to before, if it was.
func (w *walk) come(place int, height int64, tries int) {
	w.ask(place < len(w.at))
	s := state{true, height, tries}
	if w.at[place].come {
		w.ask(w.at[place] == s)
		return
	}
	w.at[place] = s
	w.work = append(w.work, place)
}

// floor is how many things must stay at a place.
func (w *walk) floor(s state) int64 {
	least := int64(1)
	if w.fun == 0 {
		least = 0
	}
	if s.tries > 0 {
		least = max(least, w.at[w.rows[s.tries].place].height)
	}
	return least
}

// take asks for things that may be taken, and tells how high it is behind that.
func (w *walk) take(s state, n int64) int64 {
	w.ask(s.height-n >= w.floor(s))
	return s.height - n
}

// row is the row of tries with one more behind it.
func (w *walk) row(ahead, place int) int {
	t := try{ahead, place}
	n, ok := w.known[t]
	if !ok {
		n = len(w.rows)
		w.rows = append(w.rows, t)
		w.known[t] = n
	}
	return n
}

// step asks what the instruction at a place asks, and comes to where it goes on.
func (w *walk) step(at int, i api.Instr) {
	s := w.at[at]
	switch i.Op {
	case api.OpRet:
		w.ask(w.fun != 0 && s.height == 2 && s.tries == 0)
	case api.OpHalt:
		w.ask(w.fun == 0 && s.tries == 0)
	case api.OpRaise:
		w.take(s, 1)
	case api.OpJump:
		w.come(int(i.A), s.height, s.tries)
	case api.OpIf:
		h := w.take(s, 1)
		w.come(at+1, h, s.tries)
		w.come(int(i.A), h, s.tries)
	case api.OpTry:
		w.come(at+1, s.height, w.row(s.tries, at))
		w.come(int(i.A), s.height+1, s.tries)
	case api.OpEnd:
		w.ask(s.tries > 0 && s.height == w.at[w.rows[s.tries].place].height+1)
		w.come(at+1, s.height, w.rows[s.tries].ahead)
	case api.OpRoot:
		w.ask(w.fun == 0)
		w.come(at+1, s.height, s.tries)
		w.come(int(i.B), s.height+1, s.tries)
	default:
		takes, puts := w.effect(s, i)
		w.come(at+1, w.take(s, takes)+puts, s.tries)
	}
}

// effect tells how many things an instruction takes and puts that goes on to the next one.
func (w *walk) effect(s state, i api.Instr) (takes, puts int64) {
	g := w.groups[w.fun]
	switch i.Op {
	case api.OpLocal:
		w.ask(i.A < s.height)
		return 0, 1
	case api.OpEnv:
		w.ask(w.fun != 0 && i.A < g.caught)
		return 0, 1
	case api.OpMate:
		w.ask(w.fun != 0 && i.A < g.funs)
		return 0, 1
	case api.OpInt, api.OpStr:
		return 0, 1
	case api.OpGroup:
		return i.C, i.B
	case api.OpCall:
		return 2, 1
	case api.OpTuple:
		return i.A, 1
	case api.OpField, api.OpIs, api.OpPay:
		return 1, 1
	case api.OpCon, api.OpExn:
		return i.B, 1
	case api.OpPrim:
		return int64(w.checker.takes(i.Text)), 1
	case api.OpSlide:
		return i.A + 1, 1
	case api.OpBind:
		w.ask(w.fun == 0)
		return 1, 1
	}
	return 1, 0 // OpPop
}
