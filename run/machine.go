package run

import (
	"clerestory/api"
)

// start is the name of the Func that a program begins with.
const start = "main"

// machine is a program that runs; the calls of the scope that its call has are its own.
type machine struct {
	scope
	does    map[api.NodeKind]func(*machine, api.Node)
	tells   map[api.NodeKind]func(*machine, api.Node) api.Value
	funcs   map[string]api.Node
	fuel    int
	steps   int
	input   []api.Value // what is left of it
	out     []api.Value
	calls   int  // how many are in one another
	returns bool // whether the panic that goes on is a Return's
}

// loaded tells a machine that is about to run the file n.
func loaded(n api.Node, fuel int, input ...api.Value) *machine {
	m := &machine{does: statements(), tells: expressions(), funcs: map[string]api.Node{}, fuel: fuel, input: input}
	for _, f := range n.Kids {
		m.funcs[f.Text] = f
	}
	return m
}

// ended calls the Func that the program begins with, and tells the fault that a panic brought, or OK.
func (m *machine) ended() (err api.Errno) {
	defer func() {
		if fault, thrown := recover().(api.Errno); thrown {
			err = fault
		}
	}()
	m.called(m.funcs[start])
	return api.OK
}

// called tells what the Func f makes of the values, which its Params are.
func (m *machine) called(f api.Node, values ...api.Value) (told api.Value) {
	must(m.calls < api.MaxCalls, api.ErrStack)
	m.calls++
	outer := m.scope
	m.scope = empty()
	defer func() {
		m.calls--
		m.scope = outer
		// A fault is not for this call to recover: it goes on, and ends all the others.
		if m.returns {
			told, m.returns = recover().(api.Value), false
		}
	}()
	for at, param := range f.Kids[0].Kids {
		m.declare(param.Text, values[at])
	}
	m.block(f.Kids[1])
	return number(0)
}

// step takes one of the fuel.
func (m *machine) step() {
	must(m.steps < m.fuel, api.ErrFuel)
	m.steps++
}

// print puts the values behind what was printed so far.
func (m *machine) print(values ...api.Value) {
	for _, v := range values {
		m.out = append(m.out, own(v))
	}
}

// must ends all with the fault, unless what must hold does.
func must(holds bool, otherwise api.Errno) {
	if !holds {
		panic(otherwise)
	}
}
