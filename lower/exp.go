package lower

import "aumbry/api"

// takes tells of a name that is bound ahead how many things its prim takes; 0: there is none.
func takes(name string) int {
	switch name {
	case "print", "itos", "size", "not", "ref", "len", "commit", "abort":
		return 1
	case "same", "array", "get":
		return 2
	case "put":
		return 3
	}
	return 0
}

// kid is one of an expression's kids, or none.
func kid(e api.Exp, i int) api.Exp {
	if i < len(e.Kids) {
		return e.Kids[i]
	}
	return api.Exp{}
}

// all are expressions, one behind the other.
func (w *lowerer) all(l []api.Exp, p place) []api.Core {
	var cores []api.Core
	for _, e := range l {
		cores = append(cores, w.exp(e, p))
	}
	return cores
}

// exp is an expression at a place.
func (w *lowerer) exp(e api.Exp, p place) api.Core {
	switch e.Kind {
	case api.ExpVar:
		return w.name(e.Name, p)
	case api.ExpCon:
		if w.infos[e.Name].Has {
			return lam(w.con(e.Name, thing(p.deep, p.more())))
		}
		return w.con(e.Name)
	case api.ExpInt:
		return number(e.Num)
	case api.ExpStr:
		return api.Core{Kind: api.CoreStr, Text: e.Text}
	case api.ExpTuple:
		return api.Core{Kind: api.CoreTuple, Kids: w.all(e.Kids, p)}
	case api.ExpFn:
		return w.fun([]string{e.Name}, kid(e, 0), p)
	case api.ExpApp:
		return w.app(kid(e, 0), kid(e, 1), p)
	case api.ExpIf:
		return choice(w.exp(kid(e, 0), p), w.exp(kid(e, 1), p), w.exp(kid(e, 2), p))
	case api.ExpLet:
		return w.let(e.Decs, kid(e, 0), p)
	case api.ExpCase:
		return let(w.exp(kid(e, 0), p), w.rules(e.Rules, p.deep, p.more(), nil))
	case api.ExpHandle:
		again := func(in place) api.Core { return part(api.CoreRaise, 0, thing(p.deep, in)) }
		return api.Core{Kind: api.CoreHandle, Kids: []api.Core{w.exp(kid(e, 0), p), w.rules(e.Rules, p.deep, p.more(), again)}}
	case api.ExpRaise:
		return part(api.CoreRaise, 0, w.exp(kid(e, 0), p))
	case api.ExpSeq:
		return let(w.exp(kid(e, 0), p), w.exp(kid(e, 1), p.more()))
	case api.ExpOp:
		return prim(e.Name, w.all(e.Kids, p)...)
	}
	return number(0)
}

// name is what a name stands for at a place.
func (w *lowerer) name(name string, p place) api.Core {
	if level, ok := w.level(name, p); ok {
		return thing(level, p)
	}
	if n := takes(name); n > 0 {
		return lam(ofParts(name, n, thing(p.deep, p.more())))
	}
	return number(0)
}

// ofParts is a prim of a thing, or of its parts, where it takes several.
func ofParts(name string, n int, of api.Core) api.Core {
	if n == 1 {
		return prim(name, of)
	}
	var l []api.Core
	for i := range n {
		l = append(l, part(api.CoreField, i, of))
	}
	return prim(name, l...)
}

// con is a constructor or an exception, with what it has.
func (w *lowerer) con(name string, has ...api.Core) api.Core {
	i := w.infos[name]
	kind := api.CoreCon
	if i.Of == "exn" {
		kind = api.CoreExn
	}
	return api.Core{Kind: kind, Num: int64(i.Place), Kids: has}
}

// app is a call; of a constructor or a prim no function is made.
func (w *lowerer) app(f, a api.Exp, p place) api.Core {
	if f.Kind == api.ExpCon && w.infos[f.Name].Has {
		return w.con(f.Name, w.exp(a, p))
	}
	if f.Kind == api.ExpVar {
		if _, ok := w.level(f.Name, p); !ok && takes(f.Name) > 0 {
			return w.call(f.Name, a, p)
		}
	}
	return api.Core{Kind: api.CoreApp, Kids: []api.Core{w.exp(f, p), w.exp(a, p)}}
}

// call is a call of a name that is bound ahead.
func (w *lowerer) call(name string, a api.Exp, p place) api.Core {
	n := takes(name)
	switch {
	case n == 1:
		return prim(name, w.exp(a, p))
	case a.Kind == api.ExpTuple && len(a.Kids) == n:
		return prim(name, w.all(a.Kids, p)...)
	}
	return let(w.exp(a, p), ofParts(name, n, thing(p.deep, p.more())))
}
