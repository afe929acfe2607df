package run

import (
	"clerestory/api"
)

// statements tells what a statement of each Kind does.
func statements() map[api.NodeKind]func(*machine, api.Node) {
	return map[api.NodeKind]func(*machine, api.Node){
		api.Block:  (*machine).block,
		api.Var:    (*machine).variable,
		api.Set:    (*machine).set,
		api.If:     (*machine).choice,
		api.While:  (*machine).loop,
		api.Return: (*machine).result,
		api.Print:  (*machine).output,
		api.Do:     (*machine).do,
	}
}

// block does the statements of n, and ends the variables that they bring; the step of a Block that is a statement was made ahead of it.
func (m *machine) block(n api.Node) {
	there := len(m.names)
	for _, statement := range n.Kids {
		m.step()
		m.does[statement.Kind](m, statement)
	}
	m.leave(there)
}

func (m *machine) variable(n api.Node) {
	m.declare(n.Text, m.value(n.Kids[0]))
}

func (m *machine) set(n api.Node) {
	place, kid := n.Kids[0], n.Kids[1]
	if place.Kind == api.Index {
		m.setIndex(place, kid)
		return
	}
	v := own(m.value(kid))
	*m.nearest(place.Text) = v
}

// setIndex sets one of the numbers of an array; the Index that says which one is an expression, and costs a step as each does.
func (m *machine) setIndex(place, kid api.Node) {
	m.step()
	values := m.values(place.Kids[1], kid)
	at := slot(*m.nearest(place.Kids[0].Text), values[0])
	*at = integer(values[1])
}

func (m *machine) choice(n api.Node) {
	if isTrue(m.value(n.Kids[0])) {
		m.block(n.Kids[1])
		return
	}
	m.block(n.Kids[2])
}

func (m *machine) loop(n api.Node) {
	for isTrue(m.value(n.Kids[0])) {
		m.block(n.Kids[1])
		m.step()
	}
}

// result ends the call that is made, whatever else is within it.
func (m *machine) result(n api.Node) {
	told := m.value(n.Kids[0])
	m.returns = true
	panic(told)
}

func (m *machine) output(n api.Node) {
	m.print(m.values(n.Kids...)...)
}

func (m *machine) do(n api.Node) {
	m.value(n.Kids[0])
}
