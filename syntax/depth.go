package syntax

import "aumbry/api"

// Depth tells how deep a program is nested. (P15.1)
func Depth(p []api.Dec) int { return deepest(p, decDepth) }

// deepest is the greatest depth of some things, 0 of none.
func deepest[T any](l []T, depth func(T) int) int {
	most := 0
	for _, x := range l {
		most = max(most, depth(x))
	}
	return most
}

// decDepth is a declaration's depth.
func decDepth(d api.Dec) int {
	cons := deepest(d.Cons, func(c api.Con) int { return tyDepth(c.Ty) })
	funs := deepest(d.Funs, func(f api.Fun) int { return expDepth(f.Exp) })
	return 1 + max(cons, funs, tyDepth(d.Ty), expDepth(d.Exp))
}

// tyDepth is a type's depth.
func tyDepth(t api.Ty) int {
	if t.Kind == 0 {
		return 0
	}
	return 1 + deepest(t.Kids, tyDepth)
}

// expDepth is an expression's depth.
func expDepth(e api.Exp) int {
	if e.Kind == 0 {
		return 0
	}
	rules := deepest(e.Rules, func(r api.Rule) int { return max(patDepth(r.Pat), expDepth(r.Exp)) })
	return 1 + max(rules, deepest(e.Kids, expDepth), deepest(e.Decs, decDepth))
}

// patDepth is a pattern's depth.
func patDepth(p api.Pat) int { return 1 + deepest(p.Kids, patDepth) }
