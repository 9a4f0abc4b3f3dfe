package infer

import "aumbry/api"

// variable is a name that a pattern binds.
type variable struct {
	name string
	ty   api.Ty
}

// rule is the type of a rule's expression, what its pattern takes being of a type.
func (in *inferrer) rule(r api.Rule, of api.Ty) (api.Ty, api.Errno) {
	defer in.names.undo(in.names.mark())
	t, vars, e := in.pat(r.Pat)
	if e != api.OK {
		return api.Ty{}, e
	}
	var all []string
	for _, v := range vars {
		all = append(all, v.name)
	}
	if twice(all) {
		return api.Ty{}, api.ErrName
	}
	if e := in.must(t, of); e != api.OK {
		return api.Ty{}, e
	}
	for _, v := range vars {
		in.bind(v.name, v.ty, nil)
	}
	return in.exp(r.Exp)
}

// pat is the type of a pattern, and what it binds, from the left.
func (in *inferrer) pat(p api.Pat) (api.Ty, []variable, api.Errno) {
	switch p.Kind {
	case api.PatAny:
		return in.book.Fresh(), nil, api.OK
	case api.PatVar:
		t := in.book.Fresh()
		return t, []variable{{p.Name, t}}, api.OK
	case api.PatInt:
		return named("int"), nil, api.OK
	case api.PatUnit:
		return named("unit"), nil, api.OK
	case api.PatTuple:
		return in.tuplePat(p)
	case api.PatCon:
		return in.conPat(p)
	}
	return api.Ty{}, nil, api.ErrType
}

// tuplePat is the type of a tuple of patterns.
func (in *inferrer) tuplePat(p api.Pat) (api.Ty, []variable, api.Errno) {
	if len(p.Kids) < 2 {
		return api.Ty{}, nil, api.ErrType
	}
	var l []api.Ty
	var all []variable
	for _, k := range p.Kids {
		t, vars, e := in.pat(k)
		if e != api.OK {
			return api.Ty{}, nil, e
		}
		l, all = append(l, t), append(all, vars...)
	}
	return tuple(l...), all, api.OK
}

// conPat is the type of a constructor's pattern.
func (in *inferrer) conPat(p api.Pat) (api.Ty, []variable, api.Errno) {
	c, e := in.openedCon(p.Name)
	if e != api.OK {
		return api.Ty{}, nil, e
	}
	if c.has != (len(p.Kids) == 1) || len(p.Kids) > 1 {
		return api.Ty{}, nil, api.ErrType
	}
	if !c.has {
		return c.of, nil, api.OK
	}
	t, vars, e := in.pat(p.Kids[0])
	if e != api.OK {
		return api.Ty{}, nil, e
	}
	return c.of, vars, in.must(t, c.what)
}
