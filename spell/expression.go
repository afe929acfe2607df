package spell

import (
	"strconv"

	"clerestory/api"
)

// Levels of what is no Binary.
const (
	unaryLevel = 6
	topLevel   = 7
)

// levels tells how tight the sign of a Binary binds.
func levels() map[string]int {
	return map[string]int{
		"||": 1,
		"&&": 2,
		"==": 3, "!=": 3, "<": 3, "<=": 3, ">": 3, ">=": 3,
		"+": 4, "-": 4,
		"*": 5, "/": 5, "%": 5,
	}
}

// level tells how tight an expression holds together.
func (p *printer) level(n api.Node) int {
	switch n.Kind {
	case api.Binary:
		return p.levels[n.Text]
	case api.Unary:
		return unaryLevel
	}
	return topLevel
}

// operand puts the Kid of n at that place, in ( ), if its level is below the least one that may stand there without.
func (p *printer) operand(n api.Node, at, least int) {
	if p.level(n.Kids[at]) >= least {
		p.kid(n, at)
		return
	}
	p.put("(")
	p.kid(n, at)
	p.put(")")
}

func (p *printer) integer(n api.Node) {
	p.put(strconv.FormatInt(n.Num, 10))
}

func (p *printer) truth(n api.Node) {
	p.put(strconv.FormatBool(n.Num == 1))
}

func (p *printer) unary(n api.Node) {
	p.put(n.Text)
	p.operand(n, 0, unaryLevel)
}

func (p *printer) binary(n api.Node) {
	level := p.level(n)
	p.operand(n, 0, level)
	p.put(" ", n.Text, " ")
	// Signs of one level are taken from the left on: what is of the same level and stands at the right is not theirs.
	p.operand(n, 1, level+1)
}

func (p *printer) call(n api.Node) {
	p.put(n.Text, "(")
	p.listed(n)
	p.put(")")
}

func (p *printer) index(n api.Node) {
	p.operand(n, 0, topLevel)
	p.put("[")
	p.kid(n, 1)
	p.put("]")
}

func (p *printer) array(n api.Node) {
	p.around(n, "[", "; ", "]")
}

func (p *printer) length(n api.Node) {
	p.around(n, "len(", ")")
}

func (p *printer) input(api.Node) {
	p.put("read()")
}
