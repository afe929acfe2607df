package run_test

import (
	"fmt"
	"math"
	"math/rand"
	"reflect"
	"slices"
	"strings"
	"testing"

	"clerestory/alpha"
	"clerestory/api"
	"clerestory/bind"
	"clerestory/run"
)

// maker makes programs by chance, with few names, so that many of them hide others; few of what it makes is of another kind than must be.
type maker struct {
	*rand.Rand
	scopes [][]variable // what was declared, from the Params on
}

// variable is one, and what it most likely is: i an int, b a bool, a an array.
type variable struct {
	name string
	kind byte
}

// made are the Funcs: what each of their Params is, and what they tell.
var made = map[string]struct {
	params string
	told   byte
}{"f": {"i", 'i'}, "g": {"ai", 'a'}, "h": {"", 'b'}, "main": {"", 'i'}}

func (m *maker) one(l ...string) string { return l[m.Intn(len(l))] }

// named tells the name of a variable of the kind, if there is one.
func (m *maker) named(kind byte) string {
	var names []string
	for _, v := range slices.Concat(m.scopes...) {
		if v.kind == kind {
			names = append(names, v.name)
		}
	}
	if len(names) == 0 {
		return ""
	}
	return m.one(names...)
}

func (m *maker) expression(kind byte, deep int) string {
	if m.Intn(60) == 0 {
		kind = "iba"[m.Intn(3)]
	}
	if name := m.named(kind); name != "" && m.Intn(2) == 0 {
		return name
	}
	if deep > 2 || m.Intn(4) == 0 {
		return m.literal(kind)
	}
	way := m.Intn(8)
	two := func(kind byte, signs ...string) string {
		return "(" + m.expression(kind, deep+1) + " " + m.one(signs...) + " " + m.expression(kind, deep+1) + ")"
	}
	switch {
	case way == 0:
		return m.call(map[byte]string{'i': "f", 'a': "g", 'b': "h"}[kind], deep)
	case kind == 'a':
		return "[" + m.one("0", "1", "2", "3", m.expression('i', deep+1)) + "; " + m.expression('i', deep+1) + "]"
	case kind == 'i' && way == 1:
		return "len(" + m.expression('a', deep+1) + ")"
	case kind == 'i' && way == 2:
		return m.expression('a', deep+1) + "[" + m.one("0", "1", m.expression('i', deep+1)) + "]"
	case kind == 'i' && way == 3:
		return m.one("-"+m.expression('i', deep+1), "read()")
	case kind == 'i':
		return two('i', "+", "-", "*", "+", "-", "*", "/", "%")
	case way == 1:
		return "!" + m.expression('b', deep+1)
	case way < 4:
		return two('b', "&&", "||", "==", "!=")
	}
	return two('i', "<", "<=", ">", ">=", "==", "!=")
}

func (m *maker) literal(kind byte) string {
	switch kind {
	case 'i':
		return fmt.Sprint(m.Intn(6))
	case 'b':
		return m.one("true", "false")
	}
	return m.one("[2; 1]", "[3; 0]", "[4; 2]")
}

func (m *maker) call(name string, deep int) string {
	var kids []string
	for _, kind := range []byte(made[name].params) {
		kids = append(kids, m.expression(kind, deep+1))
	}
	return name + "(" + strings.Join(kids, ", ") + ")"
}

func (m *maker) block(deep int, told byte) string {
	m.scopes = append(m.scopes, nil)
	body := ""
	for range 1 + m.Intn(5) {
		body += m.statement(deep, told) + " "
	}
	m.scopes = m.scopes[:len(m.scopes)-1]
	return "{ " + body + "}"
}

func (m *maker) statement(deep int, told byte) string {
	way, kind := m.Intn(16), "iiba"[m.Intn(4)]
	if deep > 2 {
		way %= 11
	}
	switch way {
	case 0, 1, 2:
		return m.declared(kind)
	case 3:
		if name := m.named(kind); name != "" {
			return name + " = " + m.expression(kind, 1) + ";"
		}
	case 4, 5:
		if name := m.named('a'); name != "" {
			return name + "[" + m.one("0", "1", m.expression('i', 1)) + "] = " + m.expression('i', 1) + ";"
		}
	case 6:
		return m.call(m.one("f", "g", "h"), 1) + ";"
	case 7:
		if m.Intn(3) == 0 {
			return "return " + m.expression(told, 1) + ";"
		}
	case 11, 12:
		return "if " + m.expression('b', 1) + " " + m.block(deep+1, told) + m.one("", " else "+m.block(deep+1, told))
	case 13:
		return "while " + m.expression('b', 1) + " " + m.block(deep+1, told)
	case 14:
		return m.counted(deep, told)
	case 15:
		return m.block(deep+1, told)
	}
	return "print " + m.expression(kind, 1) + ";"
}

// declared tells a Var of the kind; a Set, if its Block has one of the name.
func (m *maker) declared(kind byte) string {
	name, e := m.one("a", "b", "c", "d"), m.expression(kind, 1)
	last := &m.scopes[len(m.scopes)-1]
	at := slices.IndexFunc(*last, func(v variable) bool { return v.name == name })
	if at >= 0 {
		(*last)[at].kind = kind
		return name + " = " + e + ";"
	}
	*last = append(*last, variable{name, kind})
	return "var " + name + " = " + e + ";"
}

// counted tells a Block with a While that most likely comes to its end.
func (m *maker) counted(deep int, told byte) string {
	m.scopes = append(m.scopes, []variable{{"i", 'i'}})
	body := m.block(deep+1, told)
	m.scopes = m.scopes[:len(m.scopes)-1]
	return "{ var i = 0; while i < " + m.one("1", "2", "3") + " { i = i + 1; " + body + " } }"
}

func (m *maker) file() string {
	var funcs []string
	for _, at := range m.Perm(4) {
		name := []string{"f", "g", "h", "main"}[at]
		var params []string
		m.scopes = [][]variable{nil}
		for at, kind := range []byte(made[name].params) {
			params = append(params, []string{"a", "b"}[at])
			m.scopes[0] = append(m.scopes[0], variable{params[at], kind})
		}
		funcs = append(funcs, "func "+name+"("+strings.Join(params, ", ")+") "+m.block(0, made[name].told))
	}
	return strings.Join(funcs, "\n")
}

// inputs tells a row of values, most of them ints.
func (m *maker) inputs() []api.Value {
	l := []api.Value{}
	for range m.Intn(8) {
		l = append(l, []api.Value{num(int64(m.Intn(9) - 2)), num(1), num(0), num(2), num(math.MinInt64), yes, row(1, 2)}[m.Intn(7)])
	}
	return l
}

// P12.1 to P12.3: programs by chance.

func TestProgramsByChance(t *testing.T) {
	m := &maker{Rand: rand.New(rand.NewSource(12))}
	met := map[api.Errno]int{}
	printed := 0
	for range 2000 {
		s, input := m.file(), m.inputs()
		n := parsed(t, s)
		events, err := trace(n, 3000, input...)
		all := outcome(events, err, 3000)
		for range 3 {
			fuel := m.Intn(all.Steps + 2)
			if fuel <= 3000 {
				check(t, s, n, outcome(events, err, fuel), fuel, input...)
			}
		}
		check(t, s, n, all, 3000, input...)
		met[err]++
		printed += len(all.Out)
	}
	for _, err := range []api.Errno{api.OK, api.ErrKind, api.ErrIndex, api.ErrDivide, api.ErrFuel, api.ErrInput, api.ErrStack} {
		if met[err] < 10 {
			t.Error(met)
		}
	}
	if met[api.OK] < 500 || printed < 5000 {
		t.Error(met, printed)
	}
}

func TestProgramsByChanceWithAllFuels(t *testing.T) {
	m := &maker{Rand: rand.New(rand.NewSource(123))}
	for range 200 {
		s := m.file()
		sweep(t, s, parsed(t, s), 200, m.inputs()...)
	}
}

// P12.4.

func TestMoreFuelChangesNothingAndLessOnlyTheEnd(t *testing.T) {
	m := &maker{Rand: rand.New(rand.NewSource(124))}
	ended := 0
	for range 200 {
		s, input := m.file(), m.inputs()
		n := parsed(t, s)
		before := run.Run(n, 0, input...)
		for fuel := 1; fuel < 150; fuel++ {
			o := run.Run(n, fuel, input...)
			switch {
			case before.Err != api.ErrFuel && !sameOutcome(o, before):
				t.Fatalf("%s\nfuel %d: %s\none more: %s", s, fuel-1, shown(before), shown(o))
			case len(o.Out) < len(before.Out) || !slices.EqualFunc(o.Out[:len(before.Out)], before.Out, alike):
				t.Fatalf("%s\nfuel %d prints %s\none more: %s", s, fuel-1, shown(before), shown(o))
			case o.Err == api.ErrFuel && o.Steps != fuel || o.Steps > fuel:
				t.Fatalf("%s\nfuel %d: %s", s, fuel, shown(o))
			}
			if before.Err == api.ErrFuel && o.Err != api.ErrFuel {
				ended++
				if o.Steps < fuel-1 {
					t.Fatalf("%s\nfuel %d: %s, with one less ErrFuel", s, fuel, shown(o))
				}
			}
			before = o
		}
	}
	if ended < 100 {
		t.Error(ended)
	}
}

// P10.3, of programs with all kinds of values: what is alike runs alike, step by step.

func TestProgramsThatAreAlikeRunAlike(t *testing.T) {
	m := &maker{Rand: rand.New(rand.NewSource(103))}
	took := 0
	for range 100 {
		s, input := m.file(), m.inputs()
		n := parsed(t, s)
		all := run.Run(n, 500, input...)
		for _, b := range bind.Binders(n) {
			for _, name := range []string{m.one("a", "b", "c", "d", "i", "f"), "q"} {
				other, err := alpha.Rename(n, name, b.Path...)
				if err != api.OK || b.Name == "main" || name == "main" {
					continue
				}
				took++
				check(t, s+"\n"+b.Name+" renamed to "+name, other, all, 500, input...)
			}
		}
	}
	if took < 700 {
		t.Error(took)
	}
}

// R3, R4: nothing that is handed in is changed, and nothing that is told is shared.

// apart tells whether no row of the values, up to its capacity, changes when another one is written over.
func apart(values ...api.Value) bool {
	for at, v := range values {
		whole := v.Row[:cap(v.Row)]
		before := slices.Clone(whole)
		for other, w := range values {
			if other == at {
				continue
			}
			rest := w.Row[:cap(w.Row)]
			was := slices.Clone(rest)
			for i := range rest {
				rest[i] += 77
			}
			changed := !slices.Equal(whole, before)
			copy(rest, was)
			if changed {
				return false
			}
		}
	}
	return true
}

func TestNothingIsSharedOrChanged(t *testing.T) {
	for _, s := range []string{
		"func main() { print read(); print read(); print read(); }",
		"func main() { var a = read(); print a; print a; a[0] = 9; print a; var b = a; print b; print a; }",
		"func f(a) { print a; a[0] = 9; print a; return a; } func main() { var a = read(); print f(a); print a; print f(f(a)); a = read(); a[1] = 4; print a; }",
		"func main() { var a = [3; 1]; print a; print a; a = [3; 2]; print a; { var a = [3; 1]; print a; } { var a = [3; 1]; print a; } var i = 0; while i < 3 { var a = read(); a[0] = i; print a; i = i + 1; } }",
		"func main() { var a = read(); var b = read(); a[0] = 9; b[1] = 8; print a == b; print a; print b; print read(); }",
	} {
		n := parsed(t, s)
		twin := []int64{1, 2, 3}
		// Of two that share their numbers, and of one with room behind it.
		input := []api.Value{row(twin...), row(twin...), row(append(make([]int64, 0, 9), 5, 6)...)}
		before := []api.Value{row(1, 2, 3), row(1, 2, 3), row(5, 6)}
		o := run.Run(n, 500, input...)
		if o.Err != api.OK || len(o.Out) < 3 {
			t.Fatal(s, shown(o))
		}
		if !reflect.DeepEqual(input, before) || !reflect.DeepEqual(n, parsed(t, s)) {
			t.Errorf("%s: changed", s)
		}
		if !apart(append(o.Out, input[0], input[2])...) {
			t.Errorf("%s: shared", s)
		}
		for _, v := range o.Out {
			for at := range v.Row {
				v.Row[at] = 99
			}
		}
		check(t, s, n, outcome(must(trace(n, 500, before...))), 500, input...)
	}
}

func TestOneThingIsAnsweredAlike(t *testing.T) {
	m := &maker{Rand: rand.New(rand.NewSource(4))}
	for range 100 {
		s, input := m.file(), m.inputs()
		n := parsed(t, s)
		before := fmt.Sprint(n, input)
		first := run.Run(n, 300, input...)
		for range 5 {
			check(t, s, n, first, 300, input...)
		}
		if fmt.Sprint(n, input) != before {
			t.Errorf("%s: changed", s)
		}
	}
}

// Programs with much of one thing.

func TestMuch(t *testing.T) {
	vars, sum := "", 0
	for at := range 2000 {
		vars += fmt.Sprintf("var v%d = %d; ", at, at)
		sum += at
	}
	for at := range 2000 {
		vars += fmt.Sprintf("sum = sum + v%d; ", at)
	}
	var params, kids []string
	for at := range 300 {
		params, kids = append(params, fmt.Sprint("p", at)), append(kids, fmt.Sprint(at))
	}
	for s, want := range map[string]api.Outcome{
		"func main() { var sum = 0; " + vars + " print sum; }":                                                                               {Out: []api.Value{num(int64(sum))}, Steps: 2 + 2000*2 + 2000*4 + 2},
		"func f(" + strings.Join(params, ", ") + ") { return p299 - p298 + p7; } func main() { print f(" + strings.Join(kids, ", ") + "); }": {Out: []api.Value{num(8)}, Steps: 2 + 300 + 6},
		"func main() { " + strings.Repeat("print 1; ", 5000) + "}":                                                                           {Out: slices.Repeat([]api.Value{num(1)}, 5000), Steps: 10000},
		"func main() { var i = 0; while i < 30000 { i = i + 1; } print i; }":                                                                 {Out: []api.Value{num(30000)}, Steps: 2 + 1 + 3 + 30000*(4+1+3) + 2},
	} {
		check(t, s[:60], parsed(t, s), want, math.MaxInt)
		check(t, s[:60], parsed(t, s), want, want.Steps)
	}
}
