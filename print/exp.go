package print

import (
	"strings"

	"aumbry/api"
)

// exp puts an expression.
func exp(b *strings.Builder, e api.Exp) {
	switch e.Kind {
	case api.ExpVar:
		fallthrough
	case api.ExpCon:
		b.WriteString(e.Name)
	case api.ExpInt:
		number(b, e.Num)
	case api.ExpStr:
		str(b, e.Text)
	case api.ExpUnit:
		b.WriteString("()")
	case api.ExpTuple:
		b.WriteByte('(')
		between(b, e.Kids, ", ", exp)
		b.WriteByte(')')
	case api.ExpSeq:
		b.WriteByte('(')
		between(b, e.Kids, "; ", exp)
		b.WriteByte(')')
	case api.ExpFn:
		b.WriteString("fn " + e.Name + " => ")
		between(b, e.Kids, " ", exp)
	case api.ExpApp:
		between(b, e.Kids, " ", tight)
	case api.ExpIf:
		branches(b, e.Kids)
	case api.ExpLet:
		b.WriteString("let ")
		for _, d := range e.Decs {
			dec(b, d)
			b.WriteString("; ")
		}
		b.WriteString("in ")
		between(b, e.Kids, " ", exp)
		b.WriteString(" end")
	case api.ExpCase:
		b.WriteString("case ")
		between(b, e.Kids, " ", exp)
		b.WriteString(" of ")
		between(b, e.Rules, " | ", rule)
	case api.ExpHandle:
		between(b, e.Kids, " ", tight)
		b.WriteString(" handle ")
		between(b, e.Rules, " | ", rule)
	case api.ExpRaise:
		b.WriteString("raise ")
		between(b, e.Kids, " ", exp)
	case api.ExpOp:
		operator(b, e)
	}
}

// tight puts an expression, in parentheses, if others would take its parts.
func tight(b *strings.Builder, e api.Exp) {
	closed(b, e, is(e.Kind, api.ExpFn, api.ExpApp, api.ExpIf, api.ExpCase, api.ExpHandle, api.ExpRaise, api.ExpOp), exp)
}

// rule puts a rule.
func rule(b *strings.Builder, r api.Rule) {
	pat(b, r.Pat)
	b.WriteString(" => ")
	tight(b, r.Exp)
}

// branches puts the three parts of an if, as many as there are.
func branches(b *strings.Builder, kids []api.Exp) {
	for i, s := range [...]string{"if ", " then ", " else "} {
		if i < len(kids) {
			b.WriteString(s)
			exp(b, kids[i])
		}
	}
}

// operator puts an operator and what it stands with.
func operator(b *strings.Builder, e api.Exp) {
	if len(e.Kids) == 1 {
		b.WriteString(e.Name)
	}
	between(b, e.Kids, " "+e.Name+" ", tight)
}
