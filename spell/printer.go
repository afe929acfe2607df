package spell

import (
	"slices"
	"strings"

	"clerestory/api"
)

// printer puts a file's text together, and marks where its nodes stand; the builder's calls are its own.
type printer struct {
	strings.Builder
	ways   map[api.NodeKind]func(*printer, api.Node)
	levels map[string]int
	path   []int // of the node that is put
	steps  int   // how deep its Block is
	marks  []api.Mark
}

// ways tells what a node of each Kind is printed as.
func ways() map[api.NodeKind]func(*printer, api.Node) {
	return map[api.NodeKind]func(*printer, api.Node){
		api.File:   (*printer).file,
		api.Func:   (*printer).function,
		api.Params: (*printer).listed,
		api.Param:  (*printer).name,
		api.Block:  (*printer).block,
		api.Var:    (*printer).variable,
		api.Set:    (*printer).set,
		api.If:     (*printer).choice,
		api.While:  (*printer).loop,
		api.Return: (*printer).result,
		api.Print:  (*printer).output,
		api.Do:     (*printer).do,
		api.Int:    (*printer).integer,
		api.Bool:   (*printer).truth,
		api.Name:   (*printer).name,
		api.Unary:  (*printer).unary,
		api.Binary: (*printer).binary,
		api.Call:   (*printer).call,
		api.Index:  (*printer).index,
		api.Array:  (*printer).array,
		api.Length: (*printer).length,
		api.Read:   (*printer).input,
	}
}

// node puts n, and marks where it stands.
func (p *printer) node(n api.Node) {
	// Its mark stands ahead of those of its Kids, but where it ends is known behind them.
	mark := len(p.marks)
	p.marks = append(p.marks, api.Mark{Path: slices.Clone(p.path), Span: api.Span{From: p.Len()}})
	p.ways[n.Kind](p, n)
	p.marks[mark].Span.To = p.Len()
}

// kid puts the Kid of n at that place.
func (p *printer) kid(n api.Node, at int) {
	p.path = append(p.path, at)
	p.node(n.Kids[at])
	p.path = p.path[:len(p.path)-1]
}

// put puts the texts, one behind the other.
func (p *printer) put(texts ...string) {
	for _, text := range texts {
		p.WriteString(text)
	}
}

// around puts the texts, with the next Kid of n between each two of them.
func (p *printer) around(n api.Node, texts ...string) {
	for at, text := range texts {
		if at > 0 {
			p.kid(n, at-1)
		}
		p.put(text)
	}
}

// listed puts all Kids of n, with commas between them.
func (p *printer) listed(n api.Node) {
	for at := range n.Kids {
		if at > 0 {
			p.put(", ")
		}
		p.kid(n, at)
	}
}

func (p *printer) name(n api.Node) {
	p.put(n.Text)
}
