package vm

import (
	"slices"
	"strconv"
	"strings"

	"aumbry/api"
)

// The exceptions that prims raise.
const (
	exnDiv       = 0
	exnSubscript = 1
	exnSize      = 2
)

// maxArray is how long an array may be.
const maxArray = 1000

// prim does what a prim says.
func (v *Vm) prim(i *instr) (Stop, bool) {
	switch i.Text {
	case "commit":
		return v.stopped(1, number(0), Stop{Kind: StopCommit})
	case "abort":
		v.cut(1)
		return v.end(Stop{Kind: StopAbort}, true)
	case "itos":
		n := v.thing(0).Num
		return v.makesText(1, func() string { return strings.Replace(strconv.FormatInt(n, 10), "-", "~", 1) })
	case "ref":
		return v.makes(1, func() api.Object { return api.Object{Kind: api.ObjRef, Words: v.topmost(1)} })
	case "~":
		return v.done(1, number(-v.thing(0).Num))
	case "!":
		return v.part(0)
	case "not":
		o, ok := v.look(v.thing(0))
		if !ok {
			return fault(v.thing(0))
		}
		return v.makesTruth(1, o.Tag == 0)
	case "print", "size", "same", "^":
		return v.texts(i)
	case "array", "get", "put", "len", ":=":
		return v.cells(i)
	}
	return v.numbers(i.Text, v.thing(1).Num, v.thing(0).Num)
}

// makesText takes things and puts a string.
func (v *Vm) makesText(takes int, text func() string) (Stop, bool) {
	return v.makes(takes, func() api.Object { return api.Object{Kind: api.ObjStr, Text: text()} })
}

// numbers does a prim of two numbers.
func (v *Vm) numbers(name string, a, b int64) (Stop, bool) {
	switch name {
	case "+":
		return v.done(2, number(a+b))
	case "-":
		return v.done(2, number(a-b))
	case "*":
		return v.done(2, number(a*b))
	case "div", "mod":
		if b == 0 {
			return v.raises(2, exnDiv)
		}
		if name == "div" {
			return v.done(2, number(a/b))
		}
		return v.done(2, number(a%b))
	case "<":
		return v.makesTruth(2, a < b)
	case "<=":
		return v.makesTruth(2, a <= b)
	case ">":
		return v.makesTruth(2, a > b)
	case ">=":
		return v.makesTruth(2, a >= b)
	case "=":
		return v.makesTruth(2, a == b)
	}
	return v.makesTruth(2, a != b)
}

// texts does a prim of strings, which are looked at from the left.
func (v *Vm) texts(i *instr) (Stop, bool) {
	var l [2]string
	for n := range i.takes {
		w := v.thing(i.takes - 1 - n)
		o, ok := v.look(w)
		if !ok {
			return fault(w)
		}
		l[n] = o.Text
	}
	switch i.Text {
	case "print":
		return v.stopped(1, number(0), Stop{Kind: StopPrint, Text: l[0]})
	case "size":
		return v.done(1, number(int64(len(l[0]))))
	case "same":
		return v.makesTruth(2, l[0] == l[1])
	}
	return v.makesText(2, func() string { return l[0] + l[1] })
}

// cells does a prim of a cell or an array.
func (v *Vm) cells(i *instr) (Stop, bool) {
	of := v.thing(i.takes - 1)
	if i.Text == "array" {
		n := of.Num
		if n < 0 || n > maxArray {
			return v.raises(2, exnSize)
		}
		return v.makes(2, func() api.Object {
			return api.Object{Kind: api.ObjArray, Words: slices.Repeat(v.topmost(1), int(n))}
		})
	}
	if i.Text == "get" {
		if w, ok := v.word(of, int(v.thing(0).Num)); ok {
			return v.done(2, w)
		}
	}
	at := 0
	if i.Text == "put" {
		at = int(v.thing(1).Num)
	}
	if i.Text == "put" || i.Text == ":=" {
		if of.Kind == api.WordOid && v.heap.SetWord(int(of.Num), at, v.thing(0)) {
			return v.done(i.takes, number(0))
		}
	}
	// it is a stub, or it is asked how long it is, or there is no such place
	o, ok := v.look(of)
	switch {
	case !ok:
		return fault(of)
	case i.Text == "len":
		return v.done(1, number(int64(len(o.Words))))
	case i.Text == ":=":
		return v.done(2, number(0))
	}
	return v.raises(i.takes, exnSubscript)
}
