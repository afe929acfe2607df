package alpha_test

import (
	"fmt"
	"math/rand"
	"slices"
	"strings"
	"testing"

	"clerestory/alpha"
	"clerestory/api"
	"clerestory/bind"
	"clerestory/run"
	"clerestory/tree"
	"clerestory/value"
)

// maker makes programs of ints by chance, with few names, so that many of them hide others.
type maker struct {
	*rand.Rand
	scopes [][]string // the names that were declared, from the Params on
	params map[string]int
}

var (
	fewNames = []string{"a", "b", "c", "f"}
	fewFuncs = []string{"f", "g", "a", "main"}
)

func (m *maker) one(l []string) string { return l[m.Intn(len(l))] }

func (m *maker) expression(deep int) string {
	way := m.Intn(8)
	if deep > 1 {
		way = 3 + m.Intn(5)
	}
	declared := slices.Concat(m.scopes...)
	switch {
	case way == 0:
		return m.call(m.one(fewFuncs), deep)
	case way < 3:
		return "(" + m.expression(deep+1) + " " + m.one([]string{"+", "-", "*"}) + " " + m.expression(deep+1) + ")"
	case way == 3 || len(declared) == 0:
		return fmt.Sprint(m.Intn(10))
	}
	return m.one(declared)
}

func (m *maker) truth() string { return m.expression(2) + " < " + m.expression(2) }

func (m *maker) call(name string, deep int) string {
	var kids []string
	for range m.params[name] {
		kids = append(kids, m.expression(deep+1))
	}
	return name + "(" + strings.Join(kids, ", ") + ")"
}

func (m *maker) block(deep int) string {
	m.scopes = append(m.scopes, nil)
	body := ""
	for range m.Intn(6) {
		body += m.statement(deep) + " "
	}
	m.scopes = m.scopes[:len(m.scopes)-1]
	return "{ " + body + "}"
}

func (m *maker) statement(deep int) string {
	way := m.Intn(12)
	if deep > 2 {
		way %= 8
	}
	switch way {
	case 0, 1, 2:
		last := len(m.scopes) - 1
		name, kid := m.one(fewNames), m.expression(1)
		if slices.Contains(m.scopes[last], name) {
			return name + " = " + kid + ";"
		}
		m.scopes[last] = append(m.scopes[last], name)
		return "var " + name + " = " + kid + ";"
	case 3, 4:
		if declared := slices.Concat(m.scopes...); len(declared) > 0 {
			return m.one(declared) + " = " + m.expression(1) + ";"
		}
	case 8:
		return "if " + m.truth() + " " + m.block(deep+1) + " else " + m.block(deep+1)
	case 9:
		return "while " + m.truth() + " " + m.block(deep+1)
	case 10, 11:
		return m.block(deep + 1)
	case 7:
		return m.one([]string{"return " + m.expression(1) + ";", m.call(m.one(fewFuncs), 1) + ";"})
	}
	return "print " + m.expression(1) + ";"
}

func (m *maker) file() string {
	m.params = map[string]int{"f": m.Intn(4), "g": m.Intn(3), "a": m.Intn(2)}
	var funcs []string
	for _, at := range m.Perm(4) {
		name := fewFuncs[at]
		params := []string{"a", "f", "b"}[:m.params[name]]
		m.scopes = [][]string{params}
		body := m.block(0)
		if name == "main" {
			body = "{ print " + m.call("f", 0) + "; print " + m.call("g", 0) + "; " + body + " print " + m.call("a", 0) + "; }"
		}
		funcs = append(funcs, "func "+name+"("+strings.Join(params, ", ")+") "+body)
	}
	return strings.Join(funcs, "\n")
}

// P10.2, P10.3: programs by chance.

func TestRenamesByChance(t *testing.T) {
	m := &maker{Rand: rand.New(rand.NewSource(10))}
	met := map[api.Errno]int{}
	for range 60 {
		n := program(t, m.file())
		for _, b := range bind.Binders(n) {
			for _, name := range []string{m.one(fewNames), m.one(someNames), m.one(noNames[:20])} {
				met[checkRename(t, n, name, b.Path...)]++
			}
		}
	}
	if met[api.OK] < 500 || met[api.ErrFresh] < 200 || met[api.ErrArg] < 200 {
		t.Error(met)
	}
}

func TestANameThatStandsNowhereIsTakenByEachBinder(t *testing.T) {
	m := &maker{Rand: rand.New(rand.NewSource(103))}
	took := 0
	for range 40 {
		n := program(t, m.file())
		for _, b := range bind.Binders(n) {
			for _, name := range []string{m.one(fewNames), "q", m.one(someNames)} {
				if !bind.Fresh(n, name) {
					continue
				}
				took++
				if err := checkRename(t, n, name, b.Path...); err != api.OK {
					t.Fatalf("%s%q at %v: %v", text(n), name, b.Path, err)
				}
			}
		}
	}
	if took < 500 {
		t.Error(took)
	}
}

func TestWhatWasRenamedIsRenamedBack(t *testing.T) {
	m := &maker{Rand: rand.New(rand.NewSource(1003))}
	for range 50 {
		n := program(t, m.file())
		// Row by row: each tree, one more binder of which has a name of its own.
		row := []api.Node{n}
		binders := bind.Binders(n)
		for at, b := range binders {
			made, err := alpha.Rename(row[at], fmt.Sprint("x", at), b.Path...)
			if err != api.OK {
				t.Fatalf("%s%q at %v: %v", text(row[at]), b.Name, b.Path, err)
			}
			row = append(row, made)
		}
		if last := row[len(binders)]; len(tree.Names(last)) != len(binders) {
			t.Fatalf("%sis renamed to\n%s", text(n), text(last))
		}
		checkSame(t, n, row[len(binders)], true)
		for at := len(binders); at > 0; at-- {
			b := binders[at-1]
			if back, err := alpha.Rename(row[at], b.Name, b.Path...); err != api.OK || !tree.Same(back, row[at-1]) {
				t.Fatalf("%s%q at %v: %v\n%s", text(row[at]), b.Name, b.Path, err, text(back))
			}
		}
	}
}

// P10.3: programs that are alike print the same.

// printed tells what the program prints, as far as the steps go.
func printed(n api.Node) string {
	return value.Text(run.Run(n, 300).Out...)
}

// changed tells n with some names of binders and their uses, or of one node, exchanged by chance, whatever comes of it.
func (m *maker) changed(n api.Node) api.Node {
	made := n
	binders := bind.Binders(n)
	for range 1 + m.Intn(3) {
		b := binders[m.Intn(len(binders))]
		paths := append(b.Uses, b.Path)
		if m.Intn(2) == 0 {
			paths = paths[:min(1, len(b.Uses))]
		}
		made = named(made, m.one(append(fewNames, "g", "d")), paths...)
	}
	return made
}

func mainOf(n api.Node) int {
	return slices.IndexFunc(n.Kids, func(f api.Node) bool { return f.Text == "main" })
}

func TestProgramsThatAreAlikePrintTheSame(t *testing.T) {
	m := &maker{Rand: rand.New(rand.NewSource(12))}
	alike, others := 0, 0
	for range 1500 {
		n := program(t, m.file())
		out := printed(n)
		for range 4 {
			other := m.changed(n)
			if !isProgram(other) || mainOf(other) != mainOf(n) || tree.Same(n, other) {
				continue
			}
			want := plainSame(n, other)
			checkSame(t, n, other, want)
			prints := printed(other) == out
			if want && !prints {
				t.Fatalf("%sand\n%sare alike, but print %s, %s", text(n), text(other), out, printed(other))
			}
			if want && out != "" {
				alike++
			}
			if !prints {
				others++
			}
		}
	}
	if alike < 500 || others < 40 {
		t.Error(alike, others)
	}
}
