package infer

import (
	"aumbry/api"
	"aumbry/cover"
	"aumbry/types"
)

// isValue says whether an expression is a value, so that its type may be general.
func isValue(e api.Exp) bool {
	switch e.Kind {
	case api.ExpInt, api.ExpStr, api.ExpUnit, api.ExpVar, api.ExpFn, api.ExpCon:
		return true
	case api.ExpApp:
		return kid(e, 0).Kind == api.ExpCon && isValue(kid(e, 1))
	case api.ExpTuple:
		for _, k := range e.Kids {
			if !isValue(k) {
				return false
			}
		}
		return true
	}
	return false
}

// kid is one of an expression's kids, or none.
func kid(e api.Exp, i int) api.Exp {
	if i < len(e.Kids) {
		return e.Kids[i]
	}
	return api.Exp{}
}

// exp is the type of an expression.
func (in *inferrer) exp(e api.Exp) (api.Ty, api.Errno) {
	switch e.Kind {
	case api.ExpVar:
		return in.opened(e.Name)
	case api.ExpCon:
		return in.conExp(e.Name)
	case api.ExpInt:
		return named("int"), api.OK
	case api.ExpStr:
		return named("string"), api.OK
	case api.ExpUnit:
		return named("unit"), api.OK
	case api.ExpTuple:
		return in.tupleExp(e)
	case api.ExpFn:
		return in.body(api.Fun{Args: []string{e.Name}, Exp: kid(e, 0)})
	case api.ExpApp:
		return in.app(e)
	case api.ExpIf:
		return in.choice(e)
	case api.ExpLet:
		return in.let(e)
	case api.ExpCase:
		return in.cases(e)
	case api.ExpHandle:
		return in.handle(e)
	case api.ExpRaise:
		if e := in.expMust(kid(e, 0), named("exn")); e != api.OK {
			return api.Ty{}, e
		}
		return in.book.Fresh(), api.OK
	case api.ExpSeq:
		if _, e := in.exp(kid(e, 0)); e != api.OK {
			return api.Ty{}, e
		}
		return in.exp(kid(e, 1))
	case api.ExpOp:
		return in.op(e)
	}
	return api.Ty{}, api.ErrType
}

// expMust makes the type of an expression be another one.
func (in *inferrer) expMust(e api.Exp, be api.Ty) api.Errno {
	t, err := in.exp(e)
	if err != api.OK {
		return err
	}
	return in.must(t, be)
}

// openedCon is a constructor with fresh unknowns in the place of variables.
func (in *inferrer) openedCon(name string) (con, api.Errno) {
	c, ok := in.cons[name]
	if !ok {
		return con{}, api.ErrName
	}
	var fresh []api.Ty
	for range c.vars {
		fresh = append(fresh, in.book.Fresh())
	}
	c.of = types.Put(c.of, fresh)
	if c.has {
		c.what = types.Put(c.what, fresh)
	}
	return c, api.OK
}

// conExp is the type of a constructor.
func (in *inferrer) conExp(name string) (api.Ty, api.Errno) {
	c, e := in.openedCon(name)
	if e != api.OK {
		return api.Ty{}, e
	}
	if c.has {
		return arrow(c.what, c.of), api.OK
	}
	return c.of, api.OK
}

// tupleExp is the type of a tuple.
func (in *inferrer) tupleExp(e api.Exp) (api.Ty, api.Errno) {
	if len(e.Kids) < 2 {
		return api.Ty{}, api.ErrType
	}
	var l []api.Ty
	for _, k := range e.Kids {
		t, err := in.exp(k)
		if err != api.OK {
			return api.Ty{}, err
		}
		l = append(l, t)
	}
	return tuple(l...), api.OK
}

// app is the type of a call.
func (in *inferrer) app(e api.Exp) (api.Ty, api.Errno) {
	f, err := in.exp(kid(e, 0))
	if err != api.OK {
		return api.Ty{}, err
	}
	a, err := in.exp(kid(e, 1))
	if err != api.OK {
		return api.Ty{}, err
	}
	to := in.book.Fresh()
	if err := in.must(f, arrow(a, to)); err != api.OK {
		return api.Ty{}, err
	}
	return to, api.OK
}

// choice is the type of an if.
func (in *inferrer) choice(e api.Exp) (api.Ty, api.Errno) {
	if err := in.expMust(kid(e, 0), named("bool")); err != api.OK {
		return api.Ty{}, err
	}
	t, err := in.exp(kid(e, 1))
	if err != api.OK {
		return api.Ty{}, err
	}
	if err := in.expMust(kid(e, 2), t); err != api.OK {
		return api.Ty{}, err
	}
	return t, api.OK
}

// let is the type of an expression with declarations of its own.
func (in *inferrer) let(e api.Exp) (api.Ty, api.Errno) {
	defer in.names.undo(in.names.mark())
	for _, d := range e.Decs {
		if err := in.dec(d, false); err != api.OK {
			return api.Ty{}, err
		}
	}
	return in.exp(kid(e, 0))
}

// cases is the type of a case.
func (in *inferrer) cases(e api.Exp) (api.Ty, api.Errno) {
	of, err := in.exp(kid(e, 0))
	if err != api.OK {
		return api.Ty{}, err
	}
	if len(e.Rules) == 0 {
		return api.Ty{}, api.ErrCover
	}
	var first api.Ty
	for i, r := range e.Rules {
		t, err := in.rule(r, of)
		if err != api.OK {
			return api.Ty{}, err
		}
		if i == 0 {
			first = t
		} else if err := in.must(t, first); err != api.OK {
			return api.Ty{}, err
		}
	}
	return first, cover.Check(patterns(e.Rules), in.infos, true)
}

// handle is the type of what is handled.
func (in *inferrer) handle(e api.Exp) (api.Ty, api.Errno) {
	t, err := in.exp(kid(e, 0))
	if err != api.OK {
		return api.Ty{}, err
	}
	for _, r := range e.Rules {
		got, err := in.rule(r, named("exn"))
		if err != api.OK {
			return api.Ty{}, err
		}
		if err := in.must(got, t); err != api.OK {
			return api.Ty{}, err
		}
	}
	return t, cover.Check(patterns(e.Rules), in.infos, false)
}

// patterns lists those of rules.
func patterns(l []api.Rule) []api.Pat {
	var pats []api.Pat
	for _, r := range l {
		pats = append(pats, r.Pat)
	}
	return pats
}

// op is the type of what an operator makes.
func (in *inferrer) op(e api.Exp) (api.Ty, api.Errno) {
	switch e.Name {
	case ":=":
		return in.assign(e)
	case "!":
		to := in.book.Fresh()
		if err := in.expMust(kid(e, 0), named("ref", to)); err != api.OK {
			return api.Ty{}, err
		}
		return to, api.OK
	case "~", "+", "-", "*", "div", "mod":
		return named("int"), in.all(e.Kids, named("int"))
	case "<", "<=", ">", ">=", "=", "<>":
		return named("bool"), in.all(e.Kids, named("int"))
	case "^":
		return named("string"), in.all(e.Kids, named("string"))
	}
	return api.Ty{}, api.ErrType
}

// all makes the types of some expressions be one.
func (in *inferrer) all(l []api.Exp, be api.Ty) api.Errno {
	for _, e := range l {
		if err := in.expMust(e, be); err != api.OK {
			return err
		}
	}
	return api.OK
}

// assign is the type of what sets a cell.
func (in *inferrer) assign(e api.Exp) (api.Ty, api.Errno) {
	a, err := in.exp(kid(e, 0))
	if err != api.OK {
		return api.Ty{}, err
	}
	b, err := in.exp(kid(e, 1))
	if err != api.OK {
		return api.Ty{}, err
	}
	return named("unit"), in.must(a, named("ref", b))
}
