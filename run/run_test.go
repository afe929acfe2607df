package run_test

import (
	"fmt"
	"math"
	"reflect"
	"slices"
	"testing"

	"clerestory/api"
	"clerestory/bind"
	"clerestory/parse"
	"clerestory/run"
	"clerestory/value"
)

// Short ways to say values and programs.

func num(n int64) api.Value { return api.Value{Kind: api.IntValue, Num: n} }

func row(l ...int64) api.Value { return api.Value{Kind: api.ArrayValue, Row: l} }

var yes, no = api.Value{Kind: api.BoolValue, Num: 1}, api.Value{Kind: api.BoolValue}

func parsed(t *testing.T, s string) api.Node {
	t.Helper()
	n, fault := parse.File(s)
	if fault != (api.Fault{}) {
		t.Fatalf("%q: %v", s, fault)
	}
	return n
}

// The chapter's words, written down once more. What each use stands for is known ahead, by bind.Binders; faults and Returns are handed on; what came of less fuel is told of all that happened.

// spot is a node of a file, and the path to it, a byte each number.
type spot struct {
	api.Node
	path string
}

func (s spot) kid(at int) spot { return spot{s.Kids[at], s.path + string(rune(at))} }

func (s spot) kids() []spot {
	var l []spot
	for at := range s.Kids {
		l = append(l, s.kid(at))
	}
	return l
}

func pathText(path []int) string {
	s := ""
	for _, at := range path {
		s += string(rune(at))
	}
	return s
}

// event is a step, or a value that was printed.
type event struct {
	printed bool
	value   api.Value
}

// plain is a run that goes on for so many steps.
type plain struct {
	funcs  map[string]spot   // by their paths
	stands map[string]string // by the paths of uses: those of the binders
	most   int
	steps  int
	input  []api.Value
	events []event
	calls  int
}

// frame is what a call's variables are, by the paths of their binders.
type frame map[string]api.Value

func copied(v api.Value) api.Value {
	return api.Value{Kind: v.Kind, Num: v.Num, Row: append([]int64{}, v.Row...)}
}

// trace tells all that happens in a program within so many steps, and what it ends with.
func trace(n api.Node, most int, input ...api.Value) ([]event, api.Errno) {
	p := &plain{funcs: map[string]spot{}, stands: map[string]string{}, most: most, input: input}
	begin := ""
	for _, f := range (spot{Node: n}).kids() {
		p.funcs[f.path] = f
		if f.Text == "main" {
			begin = f.path
		}
	}
	for _, b := range bind.Binders(n) {
		for _, use := range b.Uses {
			p.stands[pathText(use)] = pathText(b.Path)
		}
	}
	_, err := p.call(begin, nil)
	return p.events, err
}

func (p *plain) step() api.Errno {
	if p.steps == p.most {
		return api.ErrFuel
	}
	p.steps++
	p.events = append(p.events, event{})
	return api.OK
}

func (p *plain) call(path string, values []api.Value) (api.Value, api.Errno) {
	if p.calls == 500 {
		return api.Value{}, api.ErrStack
	}
	p.calls++
	has, f := frame{}, p.funcs[path]
	for at, param := range f.kid(0).kids() {
		has[param.path] = copied(values[at])
	}
	told, err := p.block(f.kid(1), has)
	p.calls--
	if told == nil {
		return num(0), err
	}
	return *told, err
}

// block tells what a Return in it tells, if one was met.
func (p *plain) block(s spot, has frame) (told *api.Value, err api.Errno) {
	for _, statement := range s.kids() {
		if err = p.step(); err == api.OK {
			told, err = p.statement(statement, has)
		}
		if told != nil || err != api.OK {
			return told, err
		}
	}
	return nil, api.OK
}

func (p *plain) statement(s spot, has frame) (told *api.Value, err api.Errno) {
	var v api.Value
	switch s.Kind {
	case api.Block:
		return p.block(s, has)
	case api.Var:
		has[s.path], err = p.expression(s.kid(0), has)
		return nil, err
	case api.Set:
		return nil, p.set(s.kid(0), s.kid(1), has)
	case api.If, api.While:
		return p.conditional(s, has)
	}
	v, err = p.expression(s.kid(0), has)
	if err == api.OK && s.Kind == api.Return {
		return &v, api.OK
	}
	if err == api.OK && s.Kind == api.Print {
		p.events = append(p.events, event{true, v})
	}
	return nil, err
}

func (p *plain) conditional(s spot, has frame) (told *api.Value, err api.Errno) {
	for {
		v, err := p.expression(s.kid(0), has)
		switch {
		case err != api.OK:
			return nil, err
		case v.Kind != api.BoolValue:
			return nil, api.ErrKind
		case v.Num == 1 && s.Kind == api.If:
			return p.block(s.kid(1), has)
		case s.Kind == api.If:
			return p.block(s.kid(2), has)
		case v.Num == 0:
			return nil, api.OK
		}
		if told, err = p.block(s.kid(1), has); told != nil || err != api.OK {
			return told, err
		}
		if err = p.step(); err != api.OK {
			return nil, err
		}
	}
}

func (p *plain) set(place, e spot, has frame) api.Errno {
	if place.Kind == api.Name {
		v, err := p.expression(e, has)
		if err == api.OK {
			has[p.stands[place.path]] = v
		}
		return err
	}
	// The Index is an expression, its Name is none.
	if err := p.step(); err != api.OK {
		return err
	}
	at, err := p.expression(place.kid(1), has)
	if err != api.OK {
		return err
	}
	v, err := p.expression(e, has)
	if err != api.OK {
		return err
	}
	array := has[p.stands[place.kid(0).path]]
	switch {
	case array.Kind != api.ArrayValue || at.Kind != api.IntValue:
		return api.ErrKind
	case at.Num < 0 || at.Num >= int64(len(array.Row)):
		return api.ErrIndex
	case v.Kind != api.IntValue:
		return api.ErrKind
	}
	array.Row[at.Num] = v.Num
	return api.OK
}

func (p *plain) expression(s spot, has frame) (api.Value, api.Errno) {
	if err := p.step(); err != api.OK {
		return api.Value{}, err
	}
	var kids []api.Value
	for _, kid := range s.kids() {
		v, err := p.expression(kid, has)
		if err != api.OK {
			return api.Value{}, err
		}
		kids = append(kids, v)
		if s.Text != "&&" && s.Text != "||" {
			continue
		}
		if v.Kind != api.BoolValue {
			return api.Value{}, api.ErrKind
		}
		if len(kids) == 2 || v.Num == 0 && s.Text == "&&" || v.Num == 1 && s.Text == "||" {
			return v, api.OK
		}
	}
	v, err := p.reckoned(s, kids, has)
	return copied(v), err
}

func (p *plain) reckoned(s spot, kids []api.Value, has frame) (api.Value, api.Errno) {
	isInt := func(at int) bool { return kids[at].Kind == api.IntValue }
	isArray := func(at int) bool { return kids[at].Kind == api.ArrayValue }
	fault := api.ErrKind
	switch {
	case s.Kind == api.Int:
		return num(s.Num), api.OK
	case s.Kind == api.Bool && s.Num == 1:
		return yes, api.OK
	case s.Kind == api.Bool:
		return no, api.OK
	case s.Kind == api.Name:
		return has[p.stands[s.path]], api.OK
	case s.Kind == api.Unary:
		return value.Unary(s.Text, kids[0])
	case s.Kind == api.Binary:
		return value.Binary(s.Text, kids[0], kids[1])
	case s.Kind == api.Call:
		return p.call(p.stands[s.path], kids)
	case s.Kind == api.Read && len(p.input) == 0:
		fault = api.ErrInput
	case s.Kind == api.Read:
		v := p.input[0]
		p.input = p.input[1:]
		return v, api.OK
	case s.Kind == api.Length && isArray(0):
		return num(int64(len(kids[0].Row))), api.OK
	case s.Kind == api.Index && isArray(0) && isInt(1):
		if at := kids[1].Num; at >= 0 && at < int64(len(kids[0].Row)) {
			return num(kids[0].Row[at]), api.OK
		}
		fault = api.ErrIndex
	case s.Kind == api.Array && isInt(0) && isInt(1):
		if size := kids[0].Num; size >= 0 && size <= 1024 {
			v := row()
			for range size {
				v.Row = append(v.Row, kids[1].Num)
			}
			return v, api.OK
		}
		fault = api.ErrIndex
	}
	return api.Value{}, fault
}

// outcome tells what comes of so much fuel, where all that happened is that.
func outcome(events []event, err api.Errno, fuel int) api.Outcome {
	o := api.Outcome{Err: err}
	for _, e := range events {
		switch {
		case e.printed:
			o.Out = append(o.Out, e.value)
		case o.Steps == fuel:
			o.Err = api.ErrFuel
			return o
		default:
			o.Steps++
		}
	}
	return o
}

// What is told, held against that.

func alike(a, b api.Value) bool {
	return a.Kind == b.Kind && a.Num == b.Num && slices.Equal(a.Row, b.Row)
}

func sameOutcome(a, b api.Outcome) bool {
	return a.Err == b.Err && a.Steps == b.Steps && slices.EqualFunc(a.Out, b.Out, alike)
}

func shown(o api.Outcome) string {
	return fmt.Sprintf("%d, %d steps, %.200s", o.Err, o.Steps, value.Text(o.Out...))
}

func check(t *testing.T, what string, n api.Node, want api.Outcome, fuel int, input ...api.Value) {
	t.Helper()
	if got := run.Run(n, fuel, input...); !sameOutcome(got, want) {
		t.Fatalf("%s\nwith fuel %d: %s\nasked: %s", what, fuel, shown(got), shown(want))
	}
}

// sweep runs a program with all fuels from 0 to what it needs, but at most so much, and tells what it ends with.
func sweep(t *testing.T, what string, n api.Node, most int, input ...api.Value) api.Outcome {
	t.Helper()
	events, err := trace(n, most, input...)
	all := outcome(events, err, most)
	for fuel := range all.Steps {
		check(t, what, n, outcome(events, err, fuel), fuel, input...)
	}
	check(t, what, n, all, all.Steps, input...)
	if err != api.ErrFuel {
		for _, fuel := range []int{all.Steps + 1, all.Steps + 1000, 1<<31 - 1, math.MaxInt} {
			check(t, what, n, all, fuel, input...)
		}
	}
	return all
}

// enough is more than the programs of tables need.
const enough = 2500

// ends asks what a program ends with, prints, and how many steps that takes.
func ends(t *testing.T, s string, err api.Errno, out string, steps int, input ...api.Value) {
	t.Helper()
	o := sweep(t, s, parsed(t, s), enough, input...)
	if o.Err != err || value.Text(o.Out...) != out || o.Steps != steps {
		t.Errorf("%s\n%s\nasked: %d, %d steps, %s", s, shown(o), err, steps, out)
	}
}

// prints asks what a program prints, and what it ends with.
func prints(t *testing.T, s, out string, err api.Errno, input ...api.Value) {
	t.Helper()
	o := sweep(t, s, parsed(t, s), enough, input...)
	if o.Err != err || value.Text(o.Out...) != out {
		t.Errorf("%s\n%s\nasked: %d, %s", s, shown(o), err, out)
	}
}

// does asks what a main of these statements prints, beside some Funcs; p prints what it is given, and tells it.
func does(t *testing.T, statements, out string, err api.Errno, input ...api.Value) {
	t.Helper()
	prints(t, "func p(n) { print n; return n; } func none() { } func main() { "+statements+" } func id(a) { return a; }", out, err, input...)
}

// The chapter's examples.

func TestExamples(t *testing.T) {
	s := "func main() { var a = [3; 2]; a[1] = read(); print a; print a[1] / 0; }"
	ends(t, s, api.ErrDivide, "[2 7 2]", 4+4+2+6, num(7))
	s = "func f(n) { if n < 2 { return n; } return f(n - 1) + f(n - 2); } func main() { print f(9); }"
	o := run.Run(parsed(t, s), 1<<20)
	if o.Err != api.OK || value.Text(o.Out...) != "34" {
		t.Error(shown(o))
	}
	check(t, s, parsed(t, s), outcome(must(trace(parsed(t, s), 1<<20))), 1<<20)
}

// must hands on what trace told, with as much fuel as there may be.
func must(events []event, err api.Errno) ([]event, api.Errno, int) { return events, err, math.MaxInt }

// P12.1: what is refused.

func refused(t *testing.T, n api.Node, err api.Errno, fuel int, input ...api.Value) {
	t.Helper()
	if o := run.Run(n, fuel, input...); !reflect.DeepEqual(o, api.Outcome{Err: err}) {
		t.Errorf("%s, asked: %d alone", shown(o), err)
	}
}

func wrongInputs() []api.Value {
	return []api.Value{
		{}, {Num: 1}, {Kind: 4}, {Kind: 255, Row: []int64{1}}, {Kind: api.IntValue, Row: []int64{0}}, {Kind: api.BoolValue, Num: 2}, {Kind: api.BoolValue, Num: -1},
		{Kind: api.BoolValue, Row: []int64{0}}, {Kind: api.ArrayValue, Num: 1}, {Kind: api.ArrayValue, Row: make([]int64, 1025)},
	}
}

func TestWhatIsNoRightFile(t *testing.T) {
	good := parsed(t, "func main() { print 1; }")
	for _, n := range good.Kids {
		refused(t, n, api.ErrShape, 9)
		refused(t, n.Kids[0], api.ErrShape, 9)
		refused(t, n.Kids[1], api.ErrShape, 9)
	}
	refused(t, api.Node{}, api.ErrShape, 9)
	for _, change := range []func(n *api.Node){
		func(n *api.Node) { n.Kind = 30 },
		func(n *api.Node) { n.Text = "a" },
		func(n *api.Node) { n.Num = 1 },
		func(n *api.Node) { n.Kids = append(n.Kids, api.Node{Kind: api.Read}) },
		func(n *api.Node) { n.Kids[0].Text = "while" },
		func(n *api.Node) { n.Kids[0].Kids = n.Kids[0].Kids[:1] },
		func(n *api.Node) { n.Kids[0].Kids[1].Kids[0].Kids = nil },
		func(n *api.Node) { n.Kids[0].Kids[1].Kids[0].Kids[0].Num = -1 },
		func(n *api.Node) { n.Kids[0].Kids[1].Kids[0].Kids[0].Kind = api.Param },
		func(n *api.Node) {
			n.Kids[0].Kids[1].Kids[0].Kids[0].Kind, n.Kids[0].Kids[1].Kids[0].Kids[0].Num = api.Bool, 2
		},
		func(n *api.Node) { n.Kids[0].Kids[1].Kids[0].Kids[0] = nested(37) },
		func(n *api.Node) { n.Kids[0].Kids[1].Kids[0].Kids[0] = nested(100000) },
	} {
		n := parsed(t, "func main() { print 1; }")
		change(&n)
		refused(t, n, api.ErrShape, 9)
		refused(t, n, api.ErrShape, -9, api.Value{})
	}
	// A node that is among its own Kids.
	round := api.Node{Kind: api.Block, Kids: make([]api.Node, 1)}
	round.Kids[0] = round
	n := parsed(t, "func main() { }")
	n.Kids[0].Kids[1] = round
	refused(t, n, api.ErrShape, 9)
}

// nested tells an expression so many nodes deep.
func nested(deep int) api.Node {
	n := api.Node{Kind: api.Int, Num: 1}
	for range deep - 1 {
		n = api.Node{Kind: api.Unary, Text: "-", Kids: []api.Node{n}}
	}
	return n
}

func TestTheDeepestFile(t *testing.T) {
	n := parsed(t, "func main() { print 1; }")
	n.Kids[0].Kids[1].Kids[0].Kids[0] = nested(36)
	if o := sweep(t, "36 deep", n, 99); o.Err != api.OK || value.Text(o.Out...) != "-1" || o.Steps != 37 {
		t.Error(shown(o))
	}
}

func TestFilesWithFaultsOfNames(t *testing.T) {
	for _, s := range []string{
		"func main() { print x; }", "func main() { x = 1; }", "func main() { var x = x; }", "func main() { f(); }", "func main() { main(1); }", "func main(a, a) { }",
		"func main() { var x = 1; var x = 2; }", "func main() { } func main() { }", "func main() { } func f() { print x; }", "func f(a) { } func main() { f(); }", "func f() { g(); }",
		"func main() { return 1; print x; }", "func main() { if false { print x; } }",
	} {
		refused(t, parsed(t, s), api.ErrParse, 99)
		refused(t, parsed(t, s), api.ErrParse, -1, api.Value{})
	}
}

func TestFilesWithoutMain(t *testing.T) {
	for _, s := range []string{"", "func f() { }", "func Main() { }", "func mai() { } func mainn() { }", "func f(main) { print main; }", "func f() { var main = 1; print main; }"} {
		refused(t, parsed(t, s), api.ErrNone, 99)
		refused(t, parsed(t, s), api.ErrNone, -1, api.Value{})
	}
}

func TestMainsWithParams(t *testing.T) {
	for _, s := range []string{"func main(a) { }", "func main(a, b) { print a; }", "func main(main) { }", "func f() { main(1); } func main(a) { } func g() { }"} {
		refused(t, parsed(t, s), api.ErrCount, 99)
		refused(t, parsed(t, s), api.ErrCount, 99, num(1), num(2))
		refused(t, parsed(t, s), api.ErrCount, -1, api.Value{})
	}
}

func TestFuelAndInputThatMayNotBe(t *testing.T) {
	for _, s := range []string{"func main() { }", "func main() { print 1; }", "func main() { print read(); }"} {
		n := parsed(t, s)
		for _, fuel := range []int{-1, -2, -1 << 31, math.MinInt} {
			refused(t, n, api.ErrArg, fuel)
			refused(t, n, api.ErrArg, fuel, num(1))
		}
		for _, v := range wrongInputs() {
			for _, fuel := range []int{-1, 0, 1, 99} {
				refused(t, n, api.ErrArg, fuel, v)
				refused(t, n, api.ErrArg, fuel, v, num(1), yes)
				refused(t, n, api.ErrArg, fuel, num(1), v, yes)
				refused(t, n, api.ErrArg, fuel, num(1), yes, row(), v)
			}
		}
	}
}

func TestTheFirstErrorIsTold(t *testing.T) {
	// Each row of what is wrong at once; what comes first is told.
	for shape := range 2 {
		for names := range 2 {
			for main := range 3 {
				for arg := range 3 {
					s := []string{"func main() { print 1; }", "", "func main(a) { }"}[main] + []string{"", " func f() { print x; }"}[names]
					n := parsed(t, s)
					n.Num = int64(shape)
					fuel, input := []int{5, -1, 5}[arg], []api.Value{num(1), {Kind: api.ValueKind([]int{1, 1, 0}[arg])}}
					want := []api.Errno{api.OK, api.ErrArg, api.ErrArg}[arg]
					if main > 0 {
						want = []api.Errno{0, api.ErrNone, api.ErrCount}[main]
					}
					if names == 1 {
						want = api.ErrParse
					}
					if shape == 1 {
						want = api.ErrShape
					}
					if want != api.OK {
						refused(t, n, want, fuel, input...)
						continue
					}
					o := run.Run(n, fuel, input...)
					if o.Err != api.OK || value.Text(o.Out...) != "1" {
						t.Error(shown(o))
					}
				}
			}
		}
	}
}

// P12.1: main is called.

func TestMainWhereverItStands(t *testing.T) {
	ends(t, "func main() { }", api.OK, "", 0)
	ends(t, "func main() { print 1; }", api.OK, "1", 2)
	ends(t, "func f() { print 2; } func main() { print 1; } func g() { print 3; }", api.OK, "1", 2)
	ends(t, "func f(main) { print main; main(); } func main() { var f = 1; print f; }", api.OK, "1", 4)
	ends(t, "func main() { print 1; return 2; print 3; }", api.OK, "1", 4)
	ends(t, "func main() { print 1; print 2 / 0; print 3; }", api.ErrDivide, "1", 6)
}

func TestNoFuel(t *testing.T) {
	check(t, "nothing to do", parsed(t, "func main() { }"), api.Outcome{}, 0)
	for _, s := range []string{"print 1;", "{ }", "var a = 1;", "return 1;", "while true { }", "if true { }", "main();"} {
		check(t, s, parsed(t, "func main() { "+s+" }"), api.Outcome{Err: api.ErrFuel}, 0)
	}
}

// The Words: steps.

func TestSteps(t *testing.T) {
	for s, steps := range map[string]int{
		"": 0, "{ }": 1, "{ { } { } }": 3, "{ { } } { }": 3,
		"var a = 1;": 2, "var a = 1; a = 2;": 4, "var a = 1; a = a;": 4, "var a = [1; 0];": 4, "var a = [1; 0]; a[0] = 1;": 8, "var a = [1; 0]; a[0 + 0] = 1 - 1;": 12,
		"if true { }": 2, "if false { }": 2, "if true { { } } else { }": 3, "if true { } else { { } }": 2, "if false { } else { { } }": 3, "if false { { } } else { }": 2, "if !true { } else { }": 3,
		"while false { }": 2, "while !true { { } }": 3,
		"var b = true; while b { b = false; }":      2 + 2 + 2 + 1 + 1,
		"var i = 0; while i < 2 { i = i + 1; }":     2 + 1 + 3 + 2*(4+1+3),
		"var i = 0; while i < 3 { { } i = i + 1; }": 2 + 1 + 3 + 3*(5+1+3),
		"while true { return 1; }":                  4,
		"return 1;":                                 2,
		"{ { return -1; } }":                        5,
		"print 1;":                                  2,
		"print true;":                               2,
		"print -1;":                                 3,
		"print !!true;":                             4,
		"print 1 + 2;":                              4,
		"print (1 + 2) * (3 - 4);":                  8,
		"print false && true;":                      3,
		"print true && false;":                      4,
		"print true || false;":                      3,
		"print false || true;":                      4,
		"print [2; 1];":                             4,
		"print [2; 1][0];":                          6,
		"print len([2; 1]);":                        5,
		"print read();":                             2,
		"print read() == read();":                   4,
		"none();":                                   2,
		"print none();":                             2,
		"id(1);":                                    3 + 2,
		"print id(id(1));":                          4 + 2 + 2,
		"print p(1) + none();":                      5 + 4,
		"body();":                                   2 + 1,
		"var a = 1; print a;":                       4,
		"var a = [2; 0]; var i = 1; a[i] = a[i - 1];":                         4 + 2 + 3 + 5,
		"{ var a = 1; { print a; } } if true { { } } while false { { } }":     1 + 2 + 1 + 2 + 3 + 2,
		"if 1 == 1 { print 1; } else { print 2; } if 1 != 1 { } else { { } }": 4 + 2 + 4 + 1,
	} {
		s = "func p(n) { print n; return n; } func none() { } func main() { " + s + " } func id(a) { return a; } func body() { { } }"
		if o := sweep(t, s, parsed(t, s), enough, num(1), num(2)); o.Err != api.OK || o.Steps != steps {
			t.Errorf("%s\n%s\nasked: %d", s, shown(o), steps)
		}
	}
}

func TestStepsOfWhatFaults(t *testing.T) {
	for s, steps := range map[string]int{
		"print -true;": 3, "print 1 + true;": 4, "print 1 / 0;": 4, "print 1 && true;": 3, "print true && 1;": 4, "print 1[0];": 4, "print [1; 1][true];": 6, "print [1; 1][1];": 6, "print [1025; 1];": 4, "print len(1);": 3, "print read();": 2,
		"if 1 { { } }": 2, "while 1 { { } }": 2, "var a = 1; a[0] = 1;": 2 + 4, "var a = [0; 0]; a[0] = 1;": 4 + 4, "var a = [1; 0]; a[0] = true;": 4 + 4,
		"return -true;": 3, "id(1 / 0);": 2 + 3, "var a = 1 / 0;": 4, "var a = 1; a = 1 / 0;": 2 + 4, "var a = 1; a[1 / 0] = 1;": 2 + 2 + 3, "while true { print 1 / 0; }": 2 + 4,
	} {
		s = "func main() { " + s + " { } } func id(a) { return a; }"
		if o := sweep(t, s, parsed(t, s), enough); o.Err == api.OK || o.Err == api.ErrFuel || o.Steps != steps {
			t.Errorf("%s\n%s\nasked: %d", s, shown(o), steps)
		}
	}
}

func TestFuelThatEnds(t *testing.T) {
	for s, out := range map[string]string{
		"while true { }": "", "while true { while true { } }": "", "print 1; while true { { } }": "1", "print 1; while !false { var a = [1024; 1]; a[0] = 2; }": "1", "while true { id(1); }": "",
		"var i = 0; while true { if i < 3 { print i; } i = i + 1; }": "0 1 2", "while true { if true { while false { } } else { return 1; } }": "",
	} {
		s = "func main() { " + s + " } func id(a) { return a; }"
		if o := sweep(t, s, parsed(t, s), 300); o.Err != api.ErrFuel || o.Steps != 300 || value.Text(o.Out...) != out {
			t.Errorf("%s\n%s\nasked: %s", s, shown(o), out)
		}
	}
	s := "func f(n) { if n == 0 { return 0; } return f(n - 1) + f(n - 1); } func main() { print 1; print f(200); print 2; }"
	check(t, s, parsed(t, s), api.Outcome{Err: api.ErrFuel, Out: []api.Value{num(1)}, Steps: 1 << 20}, 1<<20)
}
