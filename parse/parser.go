package parse

import (
	"clerestory/api"
)

// maxLevels is how many levels may be open.
const maxLevels = 3 * api.MaxNest

// parser makes nodes of a row of tokens, whose calls are its own; what no file has there is a panic with the fault.
type parser struct {
	row
	levels int
}

// node tells a node of these.
func node(kind api.NodeKind, text string, kids ...api.Node) api.Node {
	return api.Node{Kind: kind, Text: text, Kids: kids}
}

// open takes the next token, which must be one of these, and opens a level.
// What is parsed within its like is within a level, so that this bounds the stack, too.
func (p *parser) open(signs ...string) string {
	p.must(signs...)
	if p.levels == maxLevels {
		panic(p.fault(api.ErrDeep))
	}
	p.levels++
	return p.take()
}

// close takes the sign that closes the last level that was opened.
func (p *parser) close(sign string) {
	p.want(sign)
	p.levels--
}

// within tells the expression between two brackets.
func (p *parser) within(left, right string) api.Node {
	p.open(left)
	inner := p.expression()
	p.close(right)
	return inner
}

// listed tells what one tells of each of those between round brackets, with commas between them.
func (p *parser) listed(one func() api.Node) []api.Node {
	p.open("(")
	var nodes []api.Node
	if !p.sees(")") {
		nodes = append(nodes, one())
		for p.sees(",") {
			p.take()
			nodes = append(nodes, one())
		}
	}
	p.close(")")
	return nodes
}

// file tells all of the functions up to the end.
func (p *parser) file() api.Node {
	file := node(api.File, "")
	for p.next().Kind != api.TokEnd {
		file.Kids = append(file.Kids, p.function())
	}
	return file
}

func (p *parser) function() api.Node {
	p.want("func")
	name := p.name()
	params := node(api.Params, "", p.listed(p.param)...)
	return node(api.Func, name, params, p.block())
}

func (p *parser) param() api.Node {
	return node(api.Param, p.name())
}

func (p *parser) block() api.Node {
	block := node(api.Block, "")
	p.open("{")
	for !p.sees("}") {
		block.Kids = append(block.Kids, p.statement())
	}
	p.close("}")
	return block
}
