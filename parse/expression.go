package parse

import (
	"strconv"

	"clerestory/api"
)

func (p *parser) expression() api.Node {
	return p.binary(
		[]string{"||"},
		[]string{"&&"},
		[]string{"==", "!=", "<", "<=", ">", ">="},
		[]string{"+", "-"},
		[]string{"*", "/", "%"},
	)
}

// binary tells what stands with the operators of the first level, and those of the others in it, which bind tighter.
func (p *parser) binary(levels ...[]string) api.Node {
	if len(levels) == 0 {
		return p.unary()
	}
	left := p.binary(levels[1:]...)
	for p.sees(levels[0]...) {
		sign := p.take()
		left = node(api.Binary, sign, left, p.binary(levels[1:]...))
	}
	return left
}

func (p *parser) unary() api.Node {
	if !p.sees("-", "!") {
		return p.suffix()
	}
	sign := p.open("-", "!")
	operand := p.unary()
	// No token closes this level: it ends with the operand.
	p.levels--
	return node(api.Unary, sign, operand)
}

func (p *parser) suffix() api.Node {
	n := p.prime()
	for p.sees("[") {
		n = p.index(n)
	}
	return n
}

// index tells an element of the row that stands ahead of the bracket.
func (p *parser) index(row api.Node) api.Node {
	return node(api.Index, "", row, p.within("[", "]"))
}

func (p *parser) prime() api.Node {
	switch p.next().Kind {
	case api.TokInt:
		return p.integer()
	case api.TokName:
		return p.nameOrCall()
	}
	switch p.next().Text {
	case "true":
		p.take()
		return api.Node{Kind: api.Bool, Num: 1}
	case "false":
		p.take()
		return api.Node{Kind: api.Bool}
	case "[":
		return p.array()
	case "len":
		p.take()
		return node(api.Length, "", p.within("(", ")"))
	case "read":
		p.take()
		p.open("(")
		p.close(")")
		return node(api.Read, "")
	}
	return p.within("(", ")")
}

func (p *parser) integer() api.Node {
	// lex tells no integer that is too great.
	num, _ := strconv.ParseInt(p.take(), 10, 64)
	return api.Node{Kind: api.Int, Num: num}
}

func (p *parser) nameOrCall() api.Node {
	name := p.name()
	if p.sees("(") {
		return p.call(name)
	}
	return node(api.Name, name)
}

// call tells the call of the function whose name was taken.
func (p *parser) call(name string) api.Node {
	return node(api.Call, name, p.listed(p.expression)...)
}

func (p *parser) array() api.Node {
	p.open("[")
	count := p.expression()
	p.want(";")
	value := p.expression()
	p.close("]")
	return node(api.Array, "", count, value)
}
