package parse

import (
	"clerestory/api"
)

func (p *parser) statement() api.Node {
	switch p.next().Text {
	case "var":
		return p.variable()
	case "if":
		return p.choice()
	case "while":
		return p.loop()
	case "return":
		p.take()
		return p.ended(api.Return, "", p.expression())
	case "print":
		p.take()
		return p.ended(api.Print, "", p.expression())
	case "{":
		return p.block()
	}
	return p.named()
}

// ended tells a statement, all of which but its semicolon was taken.
func (p *parser) ended(kind api.NodeKind, text string, kids ...api.Node) api.Node {
	p.want(";")
	return node(kind, text, kids...)
}

func (p *parser) variable() api.Node {
	p.want("var")
	name := p.name()
	p.want("=")
	return p.ended(api.Var, name, p.expression())
}

func (p *parser) choice() api.Node {
	p.want("if")
	condition := p.expression()
	then := p.block()
	otherwise := node(api.Block, "")
	if p.sees("else") {
		p.take()
		otherwise = p.block()
	}
	return node(api.If, "", condition, then, otherwise)
}

func (p *parser) loop() api.Node {
	p.want("while")
	condition := p.expression()
	return node(api.While, "", condition, p.block())
}

// named tells a statement that begins with a name; only what is behind that tells a Do from a Set.
func (p *parser) named() api.Node {
	name := p.name()
	if p.sees("(") {
		return p.ended(api.Do, "", p.call(name))
	}
	place := node(api.Name, name)
	if p.sees("[") {
		place = p.index(place)
	}
	p.want("=")
	return p.ended(api.Set, "", place, p.expression())
}
