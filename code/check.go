package code

import "aumbry/api"

// maxOperand is the greatest of most operands.
const maxOperand = 1<<16 - 1

// group of functions: how many things are caught, how many functions there are.
type group struct {
	caught int64
	funs   int64
}

// checker is at work on a code.
type checker struct {
	code   api.Code
	groups []group
	prims  map[string]int
}

// Check says whether code may be run. (P22.3)
func Check(c api.Code) (e api.Errno) {
	defer func() {
		if recover() != nil {
			e = api.ErrCode
		}
	}()
	k := &checker{code: c, groups: make([]group, len(c.Funs)), prims: map[string]int{}}
	k.ask(len(c.Funs) > 0)
	k.roots()
	for _, f := range c.Funs {
		for _, i := range f {
			k.operands(i, int64(len(f)))
		}
	}
	k.made()
	for n := range c.Funs {
		w := &walk{checker: k, fun: n, at: make([]state, len(c.Funs[n])), rows: []try{{}}, known: map[try]int{}}
		w.all()
	}
	return api.OK
}

// ask panics, unless something is so.
func (k *checker) ask(is bool) {
	if !is {
		panic(wrong{})
	}
}

// roots asks whether the roots may be.
func (k *checker) roots() {
	k.ask(len(k.code.Roots) <= api.MaxRoots)
	seen := map[string]bool{}
	for _, r := range k.code.Roots {
		k.ask(!seen[r.Name] && len(r.Name) >= 1 && len(r.Name) <= api.MaxName && len(r.Stamp) >= 1 && len(r.Stamp) <= api.MaxStamp)
		seen[r.Name] = true
	}
}

// within panics, unless a number is from one to another.
func (k *checker) within(x, least, most int64) { k.ask(x >= least && x <= most) }

// operands asks whether those of an instruction may be, in a function of n instructions.
func (k *checker) operands(i api.Instr, n int64) {
	funs, roots := int64(len(k.code.Funs)), int64(len(k.code.Roots))
	rest := i // what is left when the operands that the instruction has are taken out
	rest.A = 0
	switch i.Op {
	case api.OpInt:
		k.within(i.A, api.MinInt, api.MaxInt)
	case api.OpStr:
		k.ask(i.A == 0 && len(i.Text) <= api.MaxSource)
		rest.Text = ""
	case api.OpPrim:
		k.ask(i.A == 0 && k.takes(i.Text) > 0)
		rest.Text = ""
	case api.OpGroup:
		k.within(i.A, 1, funs-1)
		k.within(i.B, 1, funs-i.A)
		k.within(i.C, 0, maxOperand)
		rest.B, rest.C = 0, 0
	case api.OpRoot:
		k.within(i.A, 0, roots-1)
		k.within(i.B, 0, n-1)
		rest.B = 0
	case api.OpBind:
		k.within(i.A, 0, roots-1)
	case api.OpTuple:
		k.within(i.A, 2, maxOperand)
	case api.OpJump, api.OpIf:
		fallthrough
	case api.OpTry:
		k.within(i.A, 0, n-1)
	case api.OpCon:
		fallthrough
	case api.OpExn:
		k.within(i.B, 0, 1)
		rest.B = 0
		fallthrough
	case api.OpLocal, api.OpEnv, api.OpMate, api.OpField, api.OpIs, api.OpSlide:
		k.within(i.A, 0, maxOperand)
	case api.OpCall, api.OpRet, api.OpPay, api.OpRaise, api.OpEnd, api.OpPop, api.OpHalt:
		k.ask(i.A == 0)
	default:
		k.ask(false)
	}
	k.ask(rest == api.Instr{Op: i.Op})
}

// takes tells how many things a prim takes; 0: there is none.
func (k *checker) takes(name string) int {
	n, ok := k.prims[name]
	if !ok {
		n, _ = Takes(name)
		k.prims[name] = n
	}
	return n
}

// made asks whether each function but the first is made by just one OpGroup.
func (k *checker) made() {
	for _, f := range k.code.Funs {
		for _, i := range f {
			if i.Op != api.OpGroup {
				continue
			}
			for n := i.A; n < i.A+i.B; n++ {
				k.ask(k.groups[n].funs == 0)
				k.groups[n] = group{caught: i.C, funs: i.B}
			}
		}
	}
	for n := range k.groups {
		k.ask(n == 0 || k.groups[n].funs > 0)
	}
}
