package lower

import "aumbry/api"

// next is what comes next, at a place.
type next func(in place) api.Core

// rules are those of a thing at a level; last is what comes where none fits, nil if that can't be.
func (w *lowerer) rules(l []api.Rule, level int, p place, last next) api.Core {
	if len(l) == 0 {
		if last == nil {
			return number(0)
		}
		return last(p)
	}
	body := func(in place) api.Core { return w.exp(l[0].Exp, in) }
	if len(l) == 1 {
		return w.match(l[0].Pat, level, p, last, body)
	}
	// the names of this rule's pattern are not bound in the others
	others := func(in place) api.Core { return w.rules(l[1:], level, place{p.names, in.deep}, last) }
	switch w.tests(l[0].Pat) {
	case 0:
		return w.match(l[0].Pat, level, p, nil, body)
	case 1:
		return w.match(l[0].Pat, level, p, others, body)
	}
	// where the pattern may fail at several places, the others are a function, so that they stand there once
	jump := func(in place) api.Core {
		return api.Core{Kind: api.CoreApp, Kids: []api.Core{thing(p.deep, in), number(0)}}
	}
	return let(lam(others(p.more())), w.match(l[0].Pat, level, p.more(), jump, body))
}

// alone says whether a constructor is the only one of its type.
func (w *lowerer) alone(name string) bool {
	i := w.infos[name]
	return i.Of != "exn" && i.Many == 1
}

// tests tells at how many places a pattern may fail.
func (w *lowerer) tests(p api.Pat) int {
	n := 0
	for _, k := range p.Kids {
		n += w.tests(k)
	}
	if p.Kind == api.PatInt || p.Kind == api.PatCon && !w.alone(p.Name) {
		n++
	}
	return n
}

// match goes on with then, if a pattern fits the thing at a level, else with fail; where that is nil it fits.
func (w *lowerer) match(pat api.Pat, level int, p place, fail, then next) api.Core {
	switch pat.Kind {
	case api.PatVar:
		return then(p.called(pat.Name, level))
	case api.PatInt:
		if fail != nil {
			return choice(prim("=", thing(level, p), number(pat.Num)), then(p), fail(p))
		}
	case api.PatTuple:
		return w.matchParts(pat.Kids, 0, level, p, fail, then)
	case api.PatCon:
		fits := func(in place) api.Core { return w.matchPay(pat.Kids, level, in, fail, then) }
		if fail != nil && !w.alone(pat.Name) {
			is := part(api.CoreIs, w.infos[pat.Name].Place, thing(level, p))
			return choice(is, fits(p), fail(p))
		}
		return fits(p)
	}
	return then(p)
}

// matchParts goes through the parts of a tuple from one on.
func (w *lowerer) matchParts(l []api.Pat, from, level int, p place, fail, then next) api.Core {
	for from < len(l) && (l[from].Kind == api.PatAny || l[from].Kind == api.PatUnit) {
		from++
	}
	if from >= len(l) {
		return then(p)
	}
	rest := func(in place) api.Core { return w.matchParts(l, from+1, level, in, fail, then) }
	return let(part(api.CoreField, from, thing(level, p)), w.match(l[from], p.deep, p.more(), fail, rest))
}

// matchPay goes through what a constructor has.
func (w *lowerer) matchPay(l []api.Pat, level int, p place, fail, then next) api.Core {
	if len(l) == 0 || l[0].Kind == api.PatAny || l[0].Kind == api.PatUnit {
		return then(p)
	}
	return let(part(api.CorePay, 0, thing(level, p)), w.match(l[0], p.deep, p.more(), fail, then))
}
