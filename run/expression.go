package run

import (
	"slices"

	"clerestory/api"
	"clerestory/value"
)

// expressions tells what an expression of each Kind tells.
func expressions() map[api.NodeKind]func(*machine, api.Node) api.Value {
	return map[api.NodeKind]func(*machine, api.Node) api.Value{
		api.Int:    (*machine).integer,
		api.Bool:   (*machine).truth,
		api.Name:   (*machine).name,
		api.Unary:  (*machine).unary,
		api.Binary: (*machine).binary,
		api.Call:   (*machine).call,
		api.Index:  (*machine).index,
		api.Array:  (*machine).array,
		api.Length: (*machine).length,
		api.Read:   (*machine).read,
	}
}

// value tells what the expression n is. It may share its numbers with a variable or with the input: it is only read, and what is kept of it is a copy.
func (m *machine) value(n api.Node) api.Value {
	m.step()
	return m.tells[n.Kind](m, n)
}

// values tells what the expressions are, reckoned from left to right.
func (m *machine) values(nodes ...api.Node) []api.Value {
	values := make([]api.Value, 0, len(nodes))
	for _, n := range nodes {
		values = append(values, m.value(n))
	}
	return values
}

func (m *machine) integer(n api.Node) api.Value {
	return number(n.Num)
}

func (m *machine) truth(n api.Node) api.Value {
	return api.Value{Kind: api.BoolValue, Num: n.Num}
}

func (m *machine) name(n api.Node) api.Value {
	return *m.nearest(n.Text)
}

func (m *machine) unary(n api.Node) api.Value {
	return reckoned(value.Unary(n.Text, m.value(n.Kids[0])))
}

func (m *machine) binary(n api.Node) api.Value {
	if n.Text == "&&" || n.Text == "||" {
		return m.judged(n)
	}
	values := m.values(n.Kids...)
	return reckoned(value.Binary(n.Text, values[0], values[1]))
}

// judged tells what n tells, a Binary of && or ||: its first operand, if that settles it; else the second one.
func (m *machine) judged(n api.Node) api.Value {
	v := m.value(n.Kids[0])
	if isTrue(v) == (n.Text == "||") {
		return v
	}
	return boolean(m.value(n.Kids[1]))
}

func (m *machine) call(n api.Node) api.Value {
	return m.called(m.funcs[n.Text], m.values(n.Kids...)...)
}

func (m *machine) index(n api.Node) api.Value {
	values := m.values(n.Kids...)
	return number(*slot(values[0], values[1]))
}

func (m *machine) array(n api.Node) api.Value {
	values := m.values(n.Kids...)
	count, each := integer(values[0]), integer(values[1])
	must(0 <= count && count <= api.MaxArray, api.ErrIndex)
	return api.Value{Kind: api.ArrayValue, Row: slices.Repeat([]int64{each}, int(count))}
}

func (m *machine) length(n api.Node) api.Value {
	v := m.value(n.Kids[0])
	must(v.Kind == api.ArrayValue, api.ErrKind)
	return number(int64(len(v.Row)))
}

// read takes the next one of the input.
func (m *machine) read(api.Node) api.Value {
	must(len(m.input) > 0, api.ErrInput)
	v := m.input[0]
	m.input = m.input[1:]
	return v
}
