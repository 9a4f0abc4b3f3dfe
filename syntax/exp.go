package syntax

import "aumbry/api"

// The rows of operators, of which the later ones bind closer.
const (
	rowAsn = iota
	rowCmp
	rowCat
	rowSum
	rowMul
	rowNone
)

// row tells in which row the next token stands as an operator.
func (p *parser) row() int {
	if !p.is(api.TokSign) && !p.is(api.TokWord) {
		return rowNone
	}
	sign := p.is(api.TokSign)
	switch p.l[p.at].Text {
	case ":=":
		return onlyIf(sign, rowAsn)
	case "<", "<=", ">", ">=", "=", "<>":
		return onlyIf(sign, rowCmp)
	case "^":
		return onlyIf(sign, rowCat)
	case "+", "-":
		return onlyIf(sign, rowSum)
	case "*":
		return onlyIf(sign, rowMul)
	case "div", "mod":
		return onlyIf(!sign, rowMul)
	}
	return rowNone
}

// onlyIf is a row, if the token is of the right kind.
func onlyIf(is bool, row int) int {
	if is {
		return row
	}
	return rowNone
}

// exp reads an expression.
func (p *parser) exp() api.Exp {
	switch {
	case p.takes("fn"):
		e := api.Exp{Kind: api.ExpFn, Name: p.name()}
		p.expect("=>")
		e.Kids = []api.Exp{p.exp()}
		return e
	case p.takes("case"):
		e := api.Exp{Kind: api.ExpCase, Kids: []api.Exp{p.exp()}}
		p.expect("of")
		e.Rules = several(p, "|", p.rule)
		return e
	case p.takes("if"):
		e := api.Exp{Kind: api.ExpIf, Kids: []api.Exp{p.exp()}}
		p.expect("then")
		e.Kids = append(e.Kids, p.exp())
		p.expect("else")
		e.Kids = append(e.Kids, p.exp())
		return e
	case p.takes("raise"):
		return api.Exp{Kind: api.ExpRaise, Kids: []api.Exp{p.exp()}}
	}
	e := p.operators(rowAsn)
	if p.takes("handle") {
		return api.Exp{Kind: api.ExpHandle, Kids: []api.Exp{e}, Rules: several(p, "|", p.rule)}
	}
	return e
}

// rule reads a pattern and what it comes to.
func (p *parser) rule() api.Rule {
	r := api.Rule{Pat: p.pat()}
	p.expect("=>")
	r.Exp = p.exp()
	return r
}

// operators reads an expression whose operators stand in a row or behind it.
func (p *parser) operators(least int) api.Exp {
	left := p.app()
	most := rowMul
	for {
		row := p.row()
		if row < least || row > most {
			return left
		}
		sign := p.l[p.at].Text
		p.at++
		closer := row + 1
		if row == rowCat {
			closer = row
		}
		left = api.Exp{Kind: api.ExpOp, Name: sign, Kids: []api.Exp{left, p.operators(closer)}}
		most = row
		if row <= rowCat { // these do not stand one behind the other, to the left
			most = row - 1
		}
	}
}

// app reads what is called, and with what.
func (p *parser) app() api.Exp {
	e := p.pre()
	for p.beginsPre() {
		e = api.Exp{Kind: api.ExpApp, Kids: []api.Exp{e, p.pre()}}
	}
	return e
}

// beginsPre says whether the next token begins what a function may be called with.
func (p *parser) beginsPre() bool {
	for _, kind := range [...]uint8{api.TokName, api.TokCon, api.TokInt, api.TokStr} {
		if p.is(kind) {
			return true
		}
	}
	for _, text := range [...]string{"!", "~", "(", "true", "false", "let"} {
		if p.says(text) {
			return true
		}
	}
	return false
}

// pre reads an atom, with signs ahead of it.
func (p *parser) pre() api.Exp {
	if p.says("!") || p.says("~") {
		sign := p.next(api.TokSign).Text
		return api.Exp{Kind: api.ExpOp, Name: sign, Kids: []api.Exp{p.pre()}}
	}
	return p.atom()
}

// atom reads an expression that stands for itself.
func (p *parser) atom() api.Exp {
	switch {
	case p.is(api.TokName):
		return api.Exp{Kind: api.ExpVar, Name: p.name()}
	case p.is(api.TokCon):
		return api.Exp{Kind: api.ExpCon, Name: p.next(api.TokCon).Text}
	case p.says("true"), p.says("false"):
		return api.Exp{Kind: api.ExpCon, Name: p.next(api.TokWord).Text}
	case p.is(api.TokInt):
		return api.Exp{Kind: api.ExpInt, Num: p.next(api.TokInt).Num}
	case p.is(api.TokStr):
		return api.Exp{Kind: api.ExpStr, Text: p.next(api.TokStr).Text}
	case p.takes("let"):
		return p.let()
	}
	p.expect("(")
	return p.inside()
}

// let reads what is behind the word.
func (p *parser) let() api.Exp {
	e := api.Exp{Kind: api.ExpLet}
	for len(e.Decs) == 0 || !p.says("in") {
		e.Decs = append(e.Decs, p.local())
		p.expect(";")
	}
	p.expect("in")
	e.Kids = []api.Exp{p.exp()}
	p.expect("end")
	return e
}

// inside reads what is behind an opening sign, and the closing one.
func (p *parser) inside() api.Exp {
	if p.takes(")") {
		return api.Exp{Kind: api.ExpUnit}
	}
	e := p.exp()
	switch {
	case p.takes(","):
		e = api.Exp{Kind: api.ExpTuple, Kids: append([]api.Exp{e}, several(p, ",", p.exp)...)}
	case p.takes(";"):
		e = sequence(append([]api.Exp{e}, several(p, ";", p.exp)...))
	}
	p.expect(")")
	return e
}

// sequence is the first of some expressions and the sequence of the others.
func sequence(l []api.Exp) api.Exp {
	e := l[len(l)-1]
	for i := len(l) - 2; i >= 0; i-- {
		e = api.Exp{Kind: api.ExpSeq, Kids: []api.Exp{l[i], e}}
	}
	return e
}

// pat reads a pattern.
func (p *parser) pat() api.Pat {
	if !p.is(api.TokCon) {
		return p.patAtom()
	}
	c := api.Pat{Kind: api.PatCon, Name: p.next(api.TokCon).Text}
	if p.beginsPat() {
		c.Kids = []api.Pat{p.patAtom()}
	}
	return c
}

// beginsPat says whether the next token begins a pattern.
func (p *parser) beginsPat() bool {
	for _, kind := range [...]uint8{api.TokName, api.TokCon, api.TokInt} {
		if p.is(kind) {
			return true
		}
	}
	for _, text := range [...]string{"_", "~", "(", "true", "false"} {
		if p.says(text) {
			return true
		}
	}
	return false
}

// patAtom reads a pattern that needs no signs about it.
func (p *parser) patAtom() api.Pat {
	switch {
	case p.takes("_"):
		return api.Pat{Kind: api.PatAny}
	case p.is(api.TokName):
		return api.Pat{Kind: api.PatVar, Name: p.name()}
	case p.is(api.TokCon):
		return api.Pat{Kind: api.PatCon, Name: p.next(api.TokCon).Text}
	case p.says("true"), p.says("false"):
		return api.Pat{Kind: api.PatCon, Name: p.next(api.TokWord).Text}
	case p.is(api.TokInt):
		return api.Pat{Kind: api.PatInt, Num: p.next(api.TokInt).Num}
	case p.takes("~"):
		return api.Pat{Kind: api.PatInt, Num: -p.next(api.TokInt).Num}
	}
	p.expect("(")
	if p.takes(")") {
		return api.Pat{Kind: api.PatUnit}
	}
	l := several(p, ",", p.pat)
	p.expect(")")
	if len(l) == 1 {
		return l[0]
	}
	return api.Pat{Kind: api.PatTuple, Kids: l}
}
