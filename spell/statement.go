package spell

import (
	"strings"

	"clerestory/api"
)

func (p *printer) file(n api.Node) {
	for at := range n.Kids {
		if at > 0 {
			p.put("\n")
		}
		p.kid(n, at)
		p.put("\n")
	}
}

func (p *printer) function(n api.Node) {
	p.put("func ", n.Text)
	p.around(n, "(", ") ", "")
}

func (p *printer) block(n api.Node) {
	p.put("{\n")
	p.steps++
	for at := range n.Kids {
		p.indent()
		p.kid(n, at)
		p.put("\n")
	}
	p.steps--
	p.indent()
	p.put("}")
}

// indent puts what stands ahead of a line of the Block.
func (p *printer) indent() {
	p.put(strings.Repeat("  ", p.steps))
}

func (p *printer) variable(n api.Node) {
	p.put("var ", n.Text)
	p.around(n, " = ", ";")
}

func (p *printer) set(n api.Node) {
	p.around(n, "", " = ", ";")
}

func (p *printer) choice(n api.Node) {
	p.around(n, "if ", " ", "")
	// An empty second Block stands nowhere.
	if len(n.Kids[2].Kids) > 0 {
		p.put(" else ")
		p.kid(n, 2)
	}
}

func (p *printer) loop(n api.Node) {
	p.around(n, "while ", " ", "")
}

func (p *printer) result(n api.Node) {
	p.around(n, "return ", ";")
}

func (p *printer) output(n api.Node) {
	p.around(n, "print ", ";")
}

func (p *printer) do(n api.Node) {
	p.around(n, "", ";")
}
