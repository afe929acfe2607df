package bind_test

import (
	"fmt"
	"math/rand"
	"reflect"
	"runtime/debug"
	"slices"
	"strings"
	"testing"
	"unsafe"

	"clerestory/api"
	"clerestory/bind"
	"clerestory/lex"
	"clerestory/parse"
	"clerestory/spell"
	"clerestory/tree"
)

// The chapter's words, written down once more: each use is held against each binder, by their paths alone.

// spot is a node of a file, and the path to it; its place in a row of them is its number in preorder.
type spot struct {
	api.Node
	path []int
}

func preorder(n api.Node, path ...int) []spot {
	l := []spot{{n, slices.Clone(path)}}
	for at, kid := range n.Kids {
		l = append(l, preorder(kid, append(slices.Clone(path), at)...)...)
	}
	return l
}

func isBinder(s spot) bool {
	return s.Kind == api.Func || s.Kind == api.Param || s.Kind == api.Var
}

// under tells whether a path leads into the node that the other one leads to, or to it.
func under(path, top []int) bool {
	return len(path) >= len(top) && slices.Equal(path[:len(top)], top)
}

// reaches tells whether what is at the path is in the reach of a Param or a Var.
func reaches(b spot, path []int) bool {
	last := len(b.path) - 1
	switch b.Kind {
	case api.Var:
		return len(path) > last && under(path, b.path[:last]) && path[last] > b.path[last]
	case api.Param:
		return under(path, append(slices.Clone(b.path[:last-1]), 1))
	}
	return false
}

// standsFor tells the number of what a use stands for, or -1.
func standsFor(l []spot, use spot) int {
	found := -1
	for number, b := range l {
		if b.Text != use.Text {
			continue
		}
		if use.Kind == api.Call && b.Kind == api.Func && found < 0 {
			found = number
		}
		if use.Kind == api.Name && reaches(b, use.path) {
			found = number
		}
	}
	return found
}

// twice tells whether a binder ahead of this one has its Kind and its name, and is a Kid of the node that this one is a Kid of.
func twice(l []spot, number int) bool {
	b := l[number]
	last := len(b.path) - 1
	return slices.ContainsFunc(l[:number], func(other spot) bool {
		return other.Kind == b.Kind && other.Text == b.Text && len(other.path) == len(b.path) && under(other.path, b.path[:last])
	})
}

// faultAt tells the fault of names at the node of that number, by P9.1's Words.
func faultAt(l []spot, number int) api.Errno {
	n := l[number]
	switch {
	case isBinder(n) && twice(l, number):
		return api.ErrTwice
	case n.Kind == api.Name && standsFor(l, n) < 0:
		return api.ErrName
	case n.Kind == api.Call:
		f := standsFor(l, n)
		if f < 0 {
			return api.ErrName
		}
		if len(n.Kids) != len(l[f].Kids[0].Kids) {
			return api.ErrCount
		}
	}
	return api.OK
}

// plainCheck is P9.1's fault of a right file.
func plainCheck(n api.Node) api.Fault {
	l := preorder(n)
	for _, funcs := range []bool{true, false} {
		for number, s := range l {
			if err := faultAt(l, number); err != api.OK && (!funcs || s.Kind == api.Func) {
				return api.Fault{Err: err, At: number}
			}
		}
	}
	return api.Fault{}
}

// plainBinders is P9.2's row of a right file.
func plainBinders(n api.Node) []api.Binder {
	if plainCheck(n) != (api.Fault{}) {
		return nil
	}
	l := preorder(n)
	var binders []api.Binder
	for number, b := range l {
		if !isBinder(b) {
			continue
		}
		binder := api.Binder{Path: b.path, Name: b.Text}
		for _, use := range l {
			if (use.Kind == api.Name || use.Kind == api.Call) && standsFor(l, use) == number {
				binder.Uses = append(binder.Uses, use.path)
			}
		}
		binders = append(binders, binder)
	}
	return binders
}

// What is told, held against that.

// show tells binders as a line: each as its name and its path and, behind a :, the paths of its uses.
func show(l []api.Binder) string {
	row := func(path []int) string { return strings.Trim(fmt.Sprint(path), "[]") }
	var all []string
	for _, b := range l {
		var uses []string
		for _, use := range b.Uses {
			uses = append(uses, row(use))
		}
		one := b.Name + " " + row(b.Path)
		if len(uses) > 0 {
			one += ": " + strings.Join(uses, ", ")
		}
		all = append(all, one)
	}
	return strings.Join(all, "; ")
}

func text(n api.Node) string {
	s, err := spell.File(n)
	if err != api.OK {
		return fmt.Sprint(n)
	}
	return s
}

// check holds what is told of a right file against the plain way, and against what follows; it tells the fault.
func check(t *testing.T, n api.Node) api.Fault {
	t.Helper()
	fault, binders := bind.Check(n), bind.Binders(n)
	if want := plainCheck(n); fault != want {
		t.Fatalf("%.3000s\n%v, asked: %v", text(n), fault, want)
	}
	if got, want := show(binders), show(plainBinders(n)); got != want {
		t.Fatalf("%.3000s\n%.3000s\nasked:\n%.3000s", text(n), got, want)
	}
	if fault.Err == api.OK {
		checkFollows(t, n, binders)
	}
	return fault
}

// checkFollows is P9.4: each use is one of just one binder, and of Vars and Params of its own function alone.
func checkFollows(t *testing.T, n api.Node, binders []api.Binder) {
	t.Helper()
	owners := map[string]int{}
	for _, b := range binders {
		declared, ok := tree.Get(n, b.Path...)
		if !ok || declared.Text != b.Name || !isBinder(spot{Node: declared}) {
			t.Fatalf("%.3000s\n%q is not at %v", text(n), b.Name, b.Path)
		}
		for _, path := range b.Uses {
			use, _ := tree.Get(n, path...)
			if use.Text != b.Name || (use.Kind == api.Call) != (declared.Kind == api.Func) {
				t.Fatalf("%.3000s\nno use of %q is at %v", text(n), b.Name, path)
			}
			if declared.Kind != api.Func && path[0] != b.Path[0] {
				t.Fatalf("%.3000s\n%v stands for %v, of another function", text(n), path, b.Path)
			}
			owners[fmt.Sprint(path)]++
		}
	}
	for _, s := range preorder(n) {
		use := s.Kind == api.Name || s.Kind == api.Call
		if count := owners[fmt.Sprint(s.path)]; use != (count == 1) || count > 1 {
			t.Fatalf("%.3000s\n%v is a use of %d binders", text(n), s.path, count)
		}
	}
}

// parsed tells the tree of a text that is one.
func parsed(t *testing.T, s string) api.Node {
	t.Helper()
	n, fault := parse.File(s)
	if fault.Err != api.OK {
		t.Fatalf("%q: %v", s, fault)
	}
	return n
}

// bound holds what is told of a text without a fault against what is asked.
func bound(t *testing.T, s, want string) {
	t.Helper()
	n := parsed(t, s)
	if fault := check(t, n); fault != (api.Fault{}) {
		t.Errorf("%q: %v", s, fault)
	}
	if got := show(bind.Binders(n)); got != want {
		t.Errorf("%q: %q, asked: %q", s, got, want)
	}
}

// faulty holds what is told of a text with faults against what is asked.
func faulty(t *testing.T, s string, err api.Errno, at int) {
	t.Helper()
	n := parsed(t, s)
	if fault := check(t, n); fault != (api.Fault{Err: err, At: at}) {
		t.Errorf("%q: %v, asked: {%v %d}", s, fault, err, at)
	}
	if l := bind.Binders(n); len(l) != 0 {
		t.Errorf("%q: binders beside a fault: %q", s, show(l))
	}
}

// P9.1, P9.2: by hand.

func TestExamples(t *testing.T) {
	bound(t, "func f(a) { var a = a; print a; }", "f 0; a 0 0 0: 0 1 0 0; a 0 1 0: 0 1 1 0")
	faulty(t, "func f() { print x; var x = 1; }", api.ErrName, 5)
}

func TestFilesWithoutFaults(t *testing.T) {
	for s, want := range map[string]string{
		"":                                             "",
		"func f() { }":                                 "f 0",
		"func f(a, b) { }":                             "f 0; a 0 0 0; b 0 0 1",
		"func b() { } func a() { }":                    "b 0; a 1",
		"func f(b, a) { print a; print b; }":           "f 0; b 0 0 0: 0 1 1 0; a 0 0 1: 0 1 0 0",
		"func f(a) { print a + a; return a; }":         "f 0; a 0 0 0: 0 1 0 0 0, 0 1 0 0 1, 0 1 1 0",
		"func f(a) { } func g(a) { print a; }":         "f 0; a 0 0 0; g 1; a 1 0 0: 1 1 0 0",
		"func z(c) { var b = c; var a = b; print a; }": "z 0; c 0 0 0: 0 1 0 0; b 0 1 0: 0 1 1 0; a 0 1 1: 0 1 2 0",
		"func f() { var a = 1; a = a; } func g() { var a = 2; }": "f 0; a 0 1 0: 0 1 1 0, 0 1 1 1; g 1; a 1 1 0",
	} {
		bound(t, s, want)
	}
}

func TestAVarReachesWhatIsBehindItInItsBlock(t *testing.T) {
	for s, want := range map[string]string{
		// Its own Kid is the one farther out.
		"func f(x) { { var x = x + x; } }":              "f 0; x 0 0 0: 0 1 0 0 0 0, 0 1 0 0 0 1; x 0 1 0 0",
		"func f() { var x = 1; { var x = x; x = 2; } }": "f 0; x 0 1 0: 0 1 1 0 0; x 0 1 1 0: 0 1 1 1 0",
		// It hides one farther out, up to the end of its Block.
		"func f() { var x = 1; { print x; var x = 2; print x; } print x; }":       "f 0; x 0 1 0: 0 1 1 0 0, 0 1 2 0; x 0 1 1 1: 0 1 1 2 0",
		"func f() { var x = 1; { var x = 2; { var x = 3; print x; } } print x; }": "f 0; x 0 1 0: 0 1 2 0; x 0 1 1 0; x 0 1 1 1 0: 0 1 1 1 1 0",
		"func f() { var x = 1; { var x = 2; { var x = 3; } print x; } print x; }": "f 0; x 0 1 0: 0 1 2 0; x 0 1 1 0: 0 1 1 2 0; x 0 1 1 1 0",
		"func f(x) { if x { var x = 1; x = 2; } else { x = 3; } x = 4; }":         "f 0; x 0 0 0: 0 1 0 0, 0 1 0 2 0 0, 0 1 1 0; x 0 1 0 1 0: 0 1 0 1 1 0",
		"func f(x) { if x { x = 1; } else { var x = 2; x = 3; } x = 4; }":         "f 0; x 0 0 0: 0 1 0 0, 0 1 0 1 0 0, 0 1 1 0; x 0 1 0 2 0: 0 1 0 2 1 0",
		"func f(x) { while x { var x = x; print x; } return x; }":                 "f 0; x 0 0 0: 0 1 0 0, 0 1 0 1 0 0, 0 1 1 0; x 0 1 0 1 0: 0 1 0 1 1 0",
		"func f() { { var x = 1; print x; } { var x = 2; print x; } }":            "f 0; x 0 1 0 0: 0 1 0 1 0; x 0 1 1 0: 0 1 1 1 0",
		// What a Block within declares ends with that Block; what is declared behind a Block is not in it.
		"func f() { var x = 1; { { var x = 2; } print x; } var y = x; }": "f 0; x 0 1 0: 0 1 1 1 0, 0 1 2 0; x 0 1 1 0 0; y 0 1 2",
		"func f(x) { { print x; } var x = 1; { print x; } }":             "f 0; x 0 0 0: 0 1 0 0 0; x 0 1 1: 0 1 2 0 0",
		// What is ahead of it is the one farther out.
		"func f(x) { print x; x = 1; var x = 2; print x; }": "f 0; x 0 0 0: 0 1 0 0, 0 1 1 0; x 0 1 2: 0 1 3 0",
	} {
		bound(t, s, want)
	}
}

func TestAParamReachesItsFuncsBlock(t *testing.T) {
	for s, want := range map[string]string{
		"func f(a) { { if true { while true { print a; } } } }":    "f 0; a 0 0 0: 0 1 0 0 1 0 1 0 0",
		"func f(a) { var a = 1; print a; }":                        "f 0; a 0 0 0; a 0 1 0: 0 1 1 0",
		"func f(a) { { var a = 1; print a; } print a; }":           "f 0; a 0 0 0: 0 1 1 0; a 0 1 0 0: 0 1 0 1 0",
		"func f(a, b) { var b = a; var a = b; print a; print b; }": "f 0; a 0 0 0: 0 1 0 0; b 0 0 1; b 0 1 0: 0 1 1 0, 0 1 3 0; a 0 1 1: 0 1 2 0",
	} {
		bound(t, s, want)
	}
	faulty(t, "func f(a) { } func g() { print a; }", api.ErrName, 9)
	faulty(t, "func g() { print a; } func f(a) { }", api.ErrName, 5)
}

func TestFuncsAreAnotherSort(t *testing.T) {
	for s, want := range map[string]string{
		"func f(f) { print f; f(f); }":                         "f 0: 0 1 1 0; f 0 0 0: 0 1 0 0, 0 1 1 0 0",
		"func f() { var f = f(); f(); f = f(); }":              "f 0: 0 1 0 0, 0 1 1 0, 0 1 2 1; f 0 1 0: 0 1 2 0",
		"func f(g) { g = g(g); } func g(f) { f(f); }":          "f 0: 1 1 0 0; g 0 0 0: 0 1 0 0, 0 1 0 1 0; g 1: 0 1 0 1; f 1 0 0: 1 1 0 0 0",
		"func a() { var b = 1; } func b() { var a = 2; a(); }": "a 0: 1 1 1 0; b 0 1 0; b 1; a 1 1 0",
	} {
		bound(t, s, want)
	}
	faulty(t, "func f() { print f; }", api.ErrName, 5)
	faulty(t, "func f() { f = 1; }", api.ErrName, 5)
	faulty(t, "func f(a) { a(); }", api.ErrName, 6)
	faulty(t, "func f() { var a = 1; print a(); }", api.ErrName, 7)
}

func TestCallsOfFuncsAnywhere(t *testing.T) {
	for s, want := range map[string]string{
		"func f() { g(); } func g() { }":                             "f 0; g 1: 0 1 0 0",
		"func g() { } func f() { g(); }":                             "g 0: 1 1 0 0; f 1",
		"func f() { f(); }":                                          "f 0: 0 1 0 0",
		"func f(a) { return f(f(f(a))); }":                           "f 0: 0 1 0 0, 0 1 0 0 0, 0 1 0 0 0 0; a 0 0 0: 0 1 0 0 0 0 0",
		"func f() { h(); } func g() { h(); f(); } func h() { h(); }": "f 0: 1 1 1 0; g 1; h 2: 0 1 0 0, 1 1 0 0, 2 1 0 0",
		"func f() { g(1, 2); } func g(a, b) { g(b, a); }":            "f 0; g 1: 0 1 0 0, 1 1 0 0; a 1 0 0: 1 1 0 0 1; b 1 0 1: 1 1 0 0 0",
	} {
		bound(t, s, want)
	}
	faulty(t, "func f() { g(); }", api.ErrName, 5)
	faulty(t, "func f() { F(); }", api.ErrName, 5)
}

func TestHowManyKidsACallHas(t *testing.T) {
	for params := range 5 {
		for kids := range 7 {
			declared := strings.Join(strings.Split("abcdefg"[:params], ""), ", ")
			given := strings.Join(slices.Repeat([]string{"1"}, kids), ", ")
			// Behind the Call, and ahead of it; the Param g is no Func.
			behind := fmt.Sprintf("func m(h) { g(%s); } func g(%s) { }", given, declared)
			ahead := fmt.Sprintf("func g(%s) { } func m(h) { print [0; g(%s)]; }", declared, given)
			if params == kids {
				check(t, parsed(t, behind))
				bound(t, "func g("+declared+") { g("+strings.Join(strings.Split("abcdefg"[:kids], ""), ", ")+"); }", ownCall(params))
				if fault := check(t, parsed(t, ahead)); fault != (api.Fault{}) {
					t.Errorf("%q: %v", ahead, fault)
				}
				continue
			}
			faulty(t, behind, api.ErrCount, 6)
			faulty(t, ahead, api.ErrCount, params+11)
		}
	}
}

// ownCall is the line of a Func g that calls itself with its Params.
func ownCall(params int) string {
	line := "g 0: 0 1 0 0"
	for at := range params {
		line += fmt.Sprintf("; %c 0 0 %d: 0 1 0 0 %d", 'a'+at, at, at)
	}
	return line
}

func TestOneNameTwice(t *testing.T) {
	faulty(t, "func f() { } func f() { }", api.ErrTwice, 4)
	faulty(t, "func f() { } func g() { } func f(a) { }", api.ErrTwice, 7)
	faulty(t, "func f() { } func g() { } func g() { } func f() { }", api.ErrTwice, 7)
	faulty(t, "func f() { } func f() { } func f() { }", api.ErrTwice, 4)
	faulty(t, "func f(a) { } func f(a) { }", api.ErrTwice, 5)
	faulty(t, "func f(a, a) { }", api.ErrTwice, 4)
	faulty(t, "func f(a, b, a) { }", api.ErrTwice, 5)
	faulty(t, "func f(a, b, b, a) { }", api.ErrTwice, 5)
	faulty(t, "func f() { var x = 1; var x = 2; }", api.ErrTwice, 6)
	faulty(t, "func f() { var x = 1; print x; { var y = x; } var x = 2; }", api.ErrTwice, 11)
	faulty(t, "func f() { var x = 1; var y = 2; var y = 3; var x = 4; }", api.ErrTwice, 8)
	faulty(t, "func f() { var x = 1; var x = 2; var x = 3; }", api.ErrTwice, 6)
	faulty(t, "func f() { { var x = 1; var x = 2; } }", api.ErrTwice, 7)
	faulty(t, "func f(x) { var x = 1; var x = 2; }", api.ErrTwice, 7)
	faulty(t, "func f() { if true { } else { var x = 1; var x = 2; } }", api.ErrTwice, 10)
	faulty(t, "func f() { while true { var x = 1; var x = 2; } }", api.ErrTwice, 9)
	faulty(t, "func f() { { var x = 1; } var x = 2; { var x = 3; } var x = 4; }", api.ErrTwice, 12)
	for s, want := range map[string]string{
		// Blocks within each other, and beside each other; the Block of a Func is not where its Params are.
		"func f() { var x = 1; { var x = 2; { var x = 3; } } }":   "f 0; x 0 1 0; x 0 1 1 0; x 0 1 1 1 0",
		"func f() { { var x = 1; } var x = 2; }":                  "f 0; x 0 1 0 0; x 0 1 1",
		"func f() { { var x = 1; } { var x = 2; } }":              "f 0; x 0 1 0 0; x 0 1 1 0",
		"func f() { if true { var x = 1; } else { var x = 2; } }": "f 0; x 0 1 0 1 0; x 0 1 0 2 0",
		"func f(x) { var x = 1; }":                                "f 0; x 0 0 0; x 0 1 0",
		"func x(x) { var x = 1; { var x = 2; } }":                 "x 0; x 0 0 0; x 0 1 0; x 0 1 1 0",
		"func f(x) { } func g(x) { }":                             "f 0; x 0 0 0; g 1; x 1 0 0",
		"func f() { var x = 1; } func g() { var x = 1; }":         "f 0; x 0 1 0; g 1; x 1 1 0",
		"func f(x, X) { var Xx = 1; var xX = 2; }":                "f 0; x 0 0 0; X 0 0 1; Xx 0 1 0; xX 0 1 1",
	} {
		bound(t, s, want)
	}
}

func TestNamesThatStandForNothing(t *testing.T) {
	faulty(t, "func f() { print x; }", api.ErrName, 5)
	faulty(t, "func f() { var x = x; }", api.ErrName, 5)
	faulty(t, "func f() { var x = 1 + x; print x; }", api.ErrName, 7)
	faulty(t, "func f() { x = 1; var x = 2; }", api.ErrName, 5)
	faulty(t, "func f() { x[0] = 1; }", api.ErrName, 6)
	faulty(t, "func f() { { print x; } var x = 1; }", api.ErrName, 6)
	faulty(t, "func f() { { var x = 1; } print x; }", api.ErrName, 8)
	faulty(t, "func f() { { var x = 1; } { print x; } }", api.ErrName, 9)
	faulty(t, "func f() { if true { var x = 1; } else { x = 2; } }", api.ErrName, 11)
	faulty(t, "func f() { if true { var x = 1; } print x; }", api.ErrName, 11)
	faulty(t, "func f() { while x { var x = 1; } }", api.ErrName, 5)
	faulty(t, "func f() { while true { var x = 1; } print x; }", api.ErrName, 10)
	faulty(t, "func f() { var x = 1; } func g() { print x; }", api.ErrName, 10)
	faulty(t, "func g() { print x; } func f() { var x = 1; }", api.ErrName, 5)
	faulty(t, "func f(x) { print X; }", api.ErrName, 6)
	faulty(t, "func f(x) { print xx; }", api.ErrName, 6)
	faulty(t, "func f(xx) { print x; }", api.ErrName, 6)
}

// Where a use may stand in a statement, the $, and its path from there on.
var usePlaces = map[string]string{
	"var x = $;": "0", "r = $;": "1", "r[$] = 1;": "0 1", "r[0] = $;": "1",
	"return $;": "0", "print $;": "0", "h($);": "0 0", "print h($);": "0 0", "k(1, $, 3);": "0 1", "k(1, 2, $);": "0 2", "h(h($));": "0 0 0",
	"print -$;": "0 0", "print !$;": "0 0", "print $ + 1;": "0 0", "print 1 + $;": "0 1", "print $ && true || r == 2;": "0 0 0",
	"print $[1];": "0 0", "print r[$];": "0 1", "print [$; 1];": "0 0", "print [1; $];": "0 1", "print len($);": "0 0",
	"if $ { }": "0", "if true { print $; }": "1 0 0", "if true { } else { print $; }": "2 0 0",
	"while $ { }": "0", "while true { print $; }": "1 0 0", "{ print $; }": "0 0", "{ { var x = 1; var r = $; } }": "0 1 0",
}

func TestUsesWhereverTheyMayStand(t *testing.T) {
	around := func(statement, use string) string {
		return "func f(a, r) { print 0; " + strings.Replace(statement, "$", use, 1) + " } func g() { } func h(p) { } func k(p, q, r) { }"
	}
	for statement, place := range usePlaces {
		path := "0 1 1 " + place
		n := parsed(t, around(statement, "a"))
		if l := bind.Binders(n); !strings.Contains(show(l), "; a 0 0 0: "+path+"; r") {
			t.Errorf("%q: %q", statement, show(l))
		}
		n = parsed(t, around(statement, "g()"))
		if l := bind.Binders(n); !strings.Contains(show(l), "; g 1: "+path+"; h") {
			t.Errorf("%q: %q", statement, show(l))
		}
		number := slices.IndexFunc(preorder(n), func(s spot) bool { return fmt.Sprint(s.path) == "["+path+"]" })
		faulty(t, around(statement, "q"), api.ErrName, number)
		faulty(t, around(statement, "p"), api.ErrName, number)
		faulty(t, around(statement, "q()"), api.ErrName, number)
		faulty(t, around(statement, "a()"), api.ErrName, number)
		faulty(t, around(statement, "g(1)"), api.ErrCount, number)
		faulty(t, around(statement, "h()"), api.ErrCount, number)
	}
	for statement, place := range map[string]string{"a = 1;": "0", "a[1] = 1;": "0 0", "{ a = r; }": "0 0", "while r { a[r] = 1; }": "1 0 0 0"} {
		if l := bind.Binders(parsed(t, around(statement, ""))); !strings.Contains(show(l), "; a 0 0 0: 0 1 1 "+place+"; r") {
			t.Errorf("%q: %q", statement, show(l))
		}
	}
}

// P9.1: which of two faults is told.

// wrong is a statement with one fault, where its Func has a Var d and no other, at its node of this number, counted from 0.
type wrong struct {
	text   string
	err    api.Errno
	number int
}

var wrongs = []wrong{
	{"print q;", api.ErrName, 1}, {"q = 1;", api.ErrName, 1}, {"var q = q;", api.ErrName, 1}, {"{ var w = 1; print w + q; }", api.ErrName, 6},
	{"n();", api.ErrName, 1}, {"return d + n();", api.ErrName, 3},
	{"m(1);", api.ErrCount, 1}, {"print o();", api.ErrCount, 1}, {"print o(m(2));", api.ErrCount, 2}, {"print -o(1, 2);", api.ErrCount, 2},
	{"var d = 2;", api.ErrTwice, 0}, {"{ var w = 1; var w = 2; }", api.ErrTwice, 3}, {"if d { } else { var w = 1; var w = 2; }", api.ErrTwice, 6},
	// Of two in one statement, and of one node's Kids, the one ahead.
	{"var d = q;", api.ErrTwice, 0}, {"n(q);", api.ErrName, 1}, {"m(q);", api.ErrCount, 1}, {"o(q, q);", api.ErrCount, 1}, {"o(m(1));", api.ErrCount, 2},
	{"print q + n();", api.ErrName, 2}, {"print m(1) + q;", api.ErrCount, 2}, {"print q + m(1);", api.ErrName, 2}, {"q[m(1)] = n();", api.ErrName, 2},
	{"d[m(1)] = q;", api.ErrCount, 3}, {"{ m(1); var d = 1; var d = q; }", api.ErrCount, 2}, {"{ var w = 1; var w = m(1); print q; }", api.ErrTwice, 3},
	{"if q { m(1); }", api.ErrName, 1}, {"if d { m(1); } else { print q; }", api.ErrCount, 4}, {"while m(1) { print q; }", api.ErrCount, 1},
}

func TestWhichOfTwoFaultsIsTold(t *testing.T) {
	const others = " func m() { } func o(p) { }"
	for _, one := range wrongs {
		alone := "func f() { var d = 1; " + one.text + " }" + others
		faulty(t, alone, one.err, 6+one.number)
		// Funcs come ahead of all others, wherever they are.
		funcs := len(preorder(parsed(t, alone)))
		faulty(t, alone+" func f() { }", api.ErrTwice, funcs)
		faulty(t, alone+" func z() { } func o() { } func f() { }", api.ErrTwice, funcs+3)
		faulty(t, "func m() { } func f() { var d = 1; "+one.text+" }"+others, api.ErrTwice, funcs-4)
		faulty(t, "func f() { } func f() { var d = 1; "+one.text+" }"+others, api.ErrTwice, 4)
		for _, other := range wrongs {
			faulty(t, "func f() { var d = 1; "+one.text+" "+other.text+" }"+others, one.err, 6+one.number)
			faulty(t, "func f() { var d = 1; "+one.text+" }"+others+" func g() { var d = 1; "+other.text+" }", one.err, 6+one.number)
		}
		// A Param is ahead of all that is in the Block.
		faulty(t, "func f(b, b, q, w) { var d = 1; "+one.text+" }"+others, api.ErrTwice, 4)
	}
	faulty(t, "func f(a, a) { } func g(b, b) { }", api.ErrTwice, 4)
	faulty(t, "func f() { print q; } func g(b, b) { }", api.ErrName, 5)
	faulty(t, "func f(a, a) { print q; f(1); } func g() { } func f() { }", api.ErrTwice, 14)
}

// P9.1, P9.2, P9.4: held against the plain way.

// bodies calls do with all rows of so many of the words that are a Block's text.
func bodies(words []string, count int, do func(body string)) {
	var grow func(body string, open, left int)
	grow = func(body string, open, left int) {
		if open > left {
			return
		}
		if left == 0 {
			do(body)
			return
		}
		for _, word := range words {
			switch {
			case word == "{":
				grow(body+word+" ", open+1, left-1)
			case word != "}":
				grow(body+word+" ", open, left-1)
			case open > 0:
				grow(body+word+" ", open-1, left-1)
			}
		}
	}
	grow("", 0, count)
}

// tally counts faults, and files without.
type tally map[api.Errno]int

// least checks that there were so many of each.
func (c tally) least(t *testing.T, count int, wanted ...api.Errno) {
	t.Helper()
	for _, err := range wanted {
		if c[err] < count {
			t.Errorf("%d of %v", c[err], err)
		}
	}
}

func TestAllSmallBlocks(t *testing.T) {
	met := tally{}
	words := []string{"{", "}", "var a = 1;", "var a = a;", "var b = a;", "a = b;", "print a;"}
	for count := range 6 {
		bodies(words, count, func(body string) {
			for _, params := range []string{"", "a", "b, a"} {
				if count == 5 && params != "a" {
					continue
				}
				met[check(t, parsed(t, "func f("+params+") { "+body+"}")).Err]++
			}
		})
	}
	met.least(t, 1000, api.OK, api.ErrTwice, api.ErrName)
}

func TestAllSmallFilesOfCalls(t *testing.T) {
	var funcs []string
	for _, name := range []string{"f", "g"} {
		for _, params := range []string{"", "f", "x, x"} {
			for _, body := range []string{"", "f();", "g();", "g(1);", "f(g());", "print f(f, 1);"} {
				funcs = append(funcs, "func "+name+"("+params+") { "+body+" }")
			}
		}
	}
	met := tally{}
	for _, a := range funcs {
		met[check(t, parsed(t, a)).Err]++
		for _, b := range funcs {
			met[check(t, parsed(t, a+" "+b)).Err]++
			for _, c := range []string{"func f() { }", "func g(x) { g(1); }", "func h() { f(g(0)); }", "func h() { h(h()); }"} {
				met[check(t, parsed(t, a+" "+b+" "+c)).Err]++
			}
		}
	}
	met.least(t, 20, api.OK, api.ErrTwice, api.ErrName, api.ErrCount)
}

func TestEachSingleChangeOfAProgram(t *testing.T) {
	n := parsed(t, `func f(a,b){if (a+1)*-b==len([b;read()]){a[0]=g(a,b)[1];}else{while !f(b,a){h(b);}} {var c=a;return c;} var c=1; {var a=c; c=a;} print c;}
		func g(b,a){var h=[a;b]; h[b]=f(a,h[0]);} func h(f){f=f; {var g=f;} h(h(f));}`)
	if fault := check(t, n); fault != (api.Fault{}) {
		t.Fatal(fault)
	}
	met := tally{}
	for _, s := range preorder(n) {
		for _, name := range []string{"a", "b", "c", "f", "g", "h", "q"} {
			changed := s.Node
			if s.Text == "" || s.Kind == api.Unary || s.Kind == api.Binary {
				break
			}
			changed.Text = name
			met[check(t, with(n, changed, s.path)).Err]++
		}
		for at := range s.Kids {
			fewer, more := s.Node, s.Node
			fewer.Kids = slices.Delete(slices.Clone(s.Kids), at, at+1)
			more.Kids = slices.Insert(slices.Clone(s.Kids), at, s.Kids[at])
			for _, changed := range []api.Node{fewer, more} {
				if made := with(n, changed, s.path); tree.Right(made) {
					met[check(t, made).Err]++
				}
			}
		}
	}
	met.least(t, 10, api.OK, api.ErrTwice, api.ErrName, api.ErrCount)
}

// with tells n with kid where the path leads to.
func with(n, kid api.Node, path []int) api.Node {
	if len(path) == 0 {
		return kid
	}
	n.Kids = slices.Clone(n.Kids)
	n.Kids[path[0]] = with(n.Kids[path[0]], kid, path[1:])
	return n
}

// maker makes texts by chance, most names of which stand for something.
type maker struct {
	*rand.Rand
	scopes [][]string // the names that were declared, from the Params on
	params map[string]int
}

var someNames = strings.Fields("a b c d f g")

func (m *maker) one(l []string) string { return l[m.Intn(len(l))] }

// seldom tells true once in so many times.
func (m *maker) seldom(times int) bool { return m.Intn(times) == 0 }

// used tells a name that may be used.
func (m *maker) used() (name string, ok bool) {
	all := slices.Concat(m.scopes...)
	if len(all) == 0 || m.seldom(60) {
		return m.one(someNames), m.seldom(20)
	}
	return m.one(all), true
}

// declared tells a name that may be declared in the last scope.
func (m *maker) declared() (name string, ok bool) {
	last := len(m.scopes) - 1
	name = m.one(someNames)
	ok = !slices.Contains(m.scopes[last], name) || m.seldom(10)
	return name, ok
}

func (m *maker) declare(name string) {
	last := len(m.scopes) - 1
	m.scopes[last] = append(m.scopes[last], name)
}

func (m *maker) expression(deep int) string {
	name, ok := m.used()
	if way := m.Intn(8); deep < 4 && way < 5 {
		a, b := m.expression(deep+1), m.expression(deep+1)
		return []string{"(" + a + " + " + b + ")", "-" + a, "len(" + a + ")", "[" + a + "; " + b + "]", m.call(deep)}[way]
	}
	if !ok {
		return "1"
	}
	if m.seldom(6) {
		return name + "[" + name + "]"
	}
	return name
}

func (m *maker) call(deep int) string {
	name := "none"
	if !m.seldom(60) {
		name = m.one([]string{"f", "g", "h", "a"})
	}
	var kids []string
	for range m.params[name] {
		kids = append(kids, m.expression(deep+1))
	}
	if m.seldom(60) {
		kids = append(kids, "1")
	}
	return name + "(" + strings.Join(kids, ", ") + ")"
}

func (m *maker) block(deep int) string {
	m.scopes = append(m.scopes, nil)
	body := ""
	for range m.Intn(5) {
		body += m.statement(deep) + " "
	}
	m.scopes = m.scopes[:len(m.scopes)-1]
	return "{ " + body + "}"
}

func (m *maker) statement(deep int) string {
	way := m.Intn(8)
	if deep > 3 {
		way %= 5
	}
	switch way {
	case 0, 1:
		name, ok := m.declared()
		kid := m.expression(1)
		if ok {
			m.declare(name)
			return "var " + name + " = " + kid + ";"
		}
		return "return " + kid + ";"
	case 2:
		if name, ok := m.used(); ok {
			return name + " = " + m.expression(2) + ";"
		}
		return "print 1;"
	case 3:
		return "print " + m.expression(0) + ";"
	case 4:
		return m.call(1) + ";"
	case 5:
		return "if " + m.expression(2) + " " + m.block(deep+1) + " else " + m.block(deep+1)
	case 6:
		return "while " + m.expression(2) + " " + m.block(deep+1)
	}
	return m.block(deep + 1)
}

func (m *maker) function(name string) string {
	m.scopes = [][]string{nil}
	params := []string{"a", "f", "b"}[:m.params[name]]
	for _, param := range params {
		m.declare(param)
	}
	if len(params) == 2 && m.seldom(20) {
		params = []string{"a", "a"}
	}
	return "func " + name + "(" + strings.Join(params, ", ") + ") " + m.block(0)
}

func (m *maker) file() string {
	m.params = map[string]int{"f": m.Intn(4), "g": m.Intn(3), "h": m.Intn(2), "a": 0}
	names := []string{"f", "g", "h", "a"}
	m.Shuffle(len(names), func(i, j int) { names[i], names[j] = names[j], names[i] })
	if m.seldom(30) {
		names[m.Intn(4)] = "f"
	}
	var funcs []string
	for _, name := range names {
		funcs = append(funcs, m.function(name))
	}
	return strings.Join(funcs, "\n")
}

func TestFilesByChance(t *testing.T) {
	m := &maker{Rand: rand.New(rand.NewSource(9))}
	met := tally{}
	for range 1500 {
		met[check(t, parsed(t, m.file())).Err]++
	}
	met.least(t, 100, api.OK, api.ErrTwice, api.ErrName, api.ErrCount)
}

// P9.1, P9.2: ErrShape.

func of(kind api.NodeKind, kids ...api.Node) api.Node { return api.Node{Kind: kind, Kids: kids} }

func called(kind api.NodeKind, text string, kids ...api.Node) api.Node {
	return api.Node{Kind: kind, Text: text, Kids: kids}
}

func num(n int64) api.Node { return api.Node{Kind: api.Int, Num: n} }

func name(s string) api.Node { return called(api.Name, s) }

// whole tells a file of a Func f, whose Block is of these statements.
func whole(statements ...api.Node) api.Node {
	return of(api.File, called(api.Func, "f", of(api.Params), of(api.Block, statements...)))
}

func checkShape(t *testing.T, n api.Node) {
	t.Helper()
	if fault := bind.Check(n); fault != (api.Fault{Err: api.ErrShape}) {
		t.Errorf("Check of what is no right File: %v", fault)
	}
	if l := bind.Binders(n); len(l) != 0 {
		t.Errorf("Binders of what is no right File: %.300q", show(l))
	}
}

func TestWhatIsNoFile(t *testing.T) {
	n := parsed(t, "func f(a,b){if (a+1)*-b==len([b;read()]){a[0]=f(a,b);}else{while !true{f(1,b);}} {var c=1;return c;} print 0;}")
	kinds := map[api.NodeKind]int{}
	for _, s := range preorder(n)[1:] {
		if !tree.Right(s.Node) {
			t.Error(s)
		}
		kinds[s.Kind]++
		checkShape(t, s.Node)
	}
	if len(kinds) != 21 {
		t.Error(kinds)
	}
	for k := range 256 {
		if api.NodeKind(k) == api.File {
			continue
		}
		for _, n := range []api.Node{{}, {Text: "a"}, {Num: 1}, {Kids: []api.Node{{}}}, whole(), whole(of(api.Return, num(1)))} {
			n.Kind = api.NodeKind(k)
			checkShape(t, n)
		}
	}
}

func TestFilesThatAreNotRight(t *testing.T) {
	f := whole().Kids[0]
	for _, n := range []api.Node{
		{Kind: api.File, Text: "x"}, {Kind: api.File, Num: 1}, {Kind: api.File, Num: -1},
		of(api.File, of(0)), of(api.File, of(api.Block)), of(api.File, of(api.File)), of(api.File, of(api.Params)), of(api.File, num(1)),
		of(api.File, of(api.Func)), of(api.File, called(api.Func, "f")), of(api.File, called(api.Func, "f", of(api.Params))), of(api.File, called(api.Func, "f", of(api.Block), of(api.Params))),
		of(api.File, called(api.Func, "if", f.Kids...)), of(api.File, called(api.Func, "", f.Kids...)), of(api.File, f, of(api.Func)),
		of(api.File, called(api.Func, "f", of(api.Params, of(api.Param)), of(api.Block))), of(api.File, called(api.Func, "f", of(api.Params, name("a")), of(api.Block))),
		whole(num(1)), whole(of(api.Print)), whole(of(api.Print, num(-1))), whole(of(api.Print, name(""))), whole(of(api.Print, name("a b"))), whole(of(api.Print, name(strings.Repeat("x", 25)))),
		whole(called(api.Var, "x")), whole(called(api.Var, "var", num(1))), whole(of(api.Var, num(1))), whole(called(api.Var, "x", num(1), num(2))),
		whole(of(api.Do, name("f"))), whole(of(api.Do, of(api.Call))), whole(of(api.Set, num(1), num(1))), whole(of(api.If, num(1), of(api.Block))), whole(of(api.Block, of(api.Params))),
	} {
		checkShape(t, n)
	}
	// ErrShape is told ahead of all faults of names.
	faults := whole(of(api.Print, name("q")), called(api.Var, "x", num(1)), called(api.Var, "x", num(1)), of(api.Do, called(api.Call, "f", num(1))))
	faults.Kids = append(faults.Kids, faults.Kids[0])
	if fault := check(t, faults); fault.Err != api.ErrTwice {
		t.Error(fault)
	}
	last := faults.Kids[1]
	last.Kids = []api.Node{last.Kids[0], of(api.Block, of(api.Print, num(-1)))}
	faults.Kids[1] = last
	checkShape(t, faults)
}

// Limits: nodes 40 deep, and more.

// deep tells a file that is so many nodes deep, the deepest of them this expression; all others on the way are made by around.
func deep(nodes int, e api.Node, around func(api.Node) api.Node) api.Node {
	n := of(api.Print, e)
	if around(num(1)).Kind >= api.Int {
		n = e
		for range nodes - 5 {
			n = around(n)
		}
		return whole(called(api.Var, "x", num(1)), of(api.Print, n))
	}
	for range nodes - 5 {
		n = around(n)
	}
	return whole(called(api.Var, "x", num(1)), n)
}

func TestNodesAsDeepAsMayBe(t *testing.T) {
	ways := map[string]func(api.Node) api.Node{
		"Unary":  func(n api.Node) api.Node { return called(api.Unary, "-", n) },
		"Length": func(n api.Node) api.Node { return of(api.Length, n) },
		"Array":  func(n api.Node) api.Node { return of(api.Array, num(0), n) },
		"Binary": func(n api.Node) api.Node { return called(api.Binary, "+", n, name("x")) },
		"Block":  func(n api.Node) api.Node { return of(api.Block, n) },
		"hiding": func(n api.Node) api.Node { return of(api.Block, called(api.Var, "x", name("x")), n) },
		"behind": func(n api.Node) api.Node { return of(api.Block, n, called(api.Var, "x", name("x"))) },
	}
	for way, around := range ways {
		for _, e := range []api.Node{name("x"), name("y"), called(api.Call, "f"), called(api.Call, "g")} {
			good := e.Text == "x" || e.Text == "f"
			if fault := check(t, deep(40, e, around)); (fault.Err == api.OK) != good || !good && fault.Err != api.ErrName {
				t.Errorf("%s, %q: %v", way, e.Text, fault)
			}
			checkShape(t, deep(41, e, around))
		}
		if fault := check(t, deep(39, called(api.Call, "f", name("x")), around)); fault.Err != api.ErrCount {
			t.Errorf("%s: %v", way, fault)
		}
	}
	// Each Var's one use is the next one's own Kid, and the last one's the Print's.
	l := bind.Binders(deep(40, name("x"), ways["hiding"]))
	path := []int{0, 1}
	for at, b := range l[1:] {
		use := append(slices.Clone(path), 1, 0, 0)
		if at == len(l)-2 {
			use = append(slices.Clone(path), 1, 0)
		}
		if !slices.Equal(b.Path, append(slices.Clone(path), 0)) || len(b.Uses) != 1 || !slices.Equal(b.Uses[0], use) {
			t.Fatalf("%d: %q", at, show([]api.Binder{b}))
		}
		path = append(path, 1)
	}
	if len(l) != 37 {
		t.Error(len(l))
	}
}

func TestTreesFarTooDeep(t *testing.T) {
	defer debug.SetMaxStack(debug.SetMaxStack(1 << 20)) // a call a node would break it
	e, s := name("a"), of(api.Block, called(api.Var, "b", num(1)))
	for range 1 << 17 {
		e, s = called(api.Unary, "-", e), of(api.Block, s)
	}
	checkShape(t, whole(of(api.Print, e)))
	checkShape(t, whole(s))
	if bind.Fresh(e, "a") || !bind.Fresh(e, "b") || bind.Fresh(s, "b") || !bind.Fresh(s, "a") {
		t.Error("Fresh of trees far too deep")
	}
	row := []api.Node{of(api.Block)}
	row[0].Kids = row
	checkShape(t, whole(row...))
	file := []api.Node{of(api.File)}
	file[0].Kids = file
	checkShape(t, file[0])
}

func TestWideFiles(t *testing.T) {
	const wide = 1 << 14
	n := of(api.File)
	params, block, kids := of(api.Params), of(api.Block), []api.Node{}
	for i := range wide {
		n.Kids = append(n.Kids, called(api.Func, fmt.Sprint("f", i), of(api.Params), of(api.Block, of(api.Do, called(api.Call, fmt.Sprint("f", wide-1-i))))))
		params.Kids = append(params.Kids, called(api.Param, fmt.Sprint("p", i)))
		block.Kids = append(block.Kids, called(api.Var, fmt.Sprint("p", i), name(fmt.Sprint("p", i))))
		kids = append(kids, name(fmt.Sprint("p", wide-1-i)))
	}
	block.Kids = append(block.Kids, of(api.Do, called(api.Call, "wide", kids...)))
	n.Kids = append(n.Kids, called(api.Func, "wide", params, block))
	l := bind.Binders(n)
	if fault := bind.Check(n); fault != (api.Fault{}) || len(l) != 3*wide+1 {
		t.Fatal(fault, len(l))
	}
	for i := range wide {
		want := fmt.Sprintf("f%d %d: %d 1 0 0; p%d %d 0 %d: %d 1 %d 0; p%d %d 1 %d: %d 1 %d 0 %d", i, i, wide-1-i, i, wide, i, wide, i, i, wide, i, wide, wide, wide-1-i)
		if got := show([]api.Binder{l[i], l[wide+1+i], l[2*wide+1+i]}); got != want {
			t.Fatalf("%q, asked: %q", got, want)
		}
	}
	last := n.Kids[wide].Kids[1].Kids[wide].Kids[0].Kids
	last[wide-1] = name("q")
	if fault := bind.Check(n); fault != (api.Fault{Err: api.ErrName, At: tree.Size(n) - 1}) {
		t.Error(fault)
	}
}

// P9.3.

func checkFresh(t *testing.T, n api.Node, s string, want bool) {
	t.Helper()
	if bind.Fresh(n, s) != want {
		t.Errorf("Fresh(%.300s, %q) is not %v", text(n), s, want)
	}
}

func TestFreshOfWhatIsNoName(t *testing.T) {
	for _, n := range []api.Node{{}, of(api.File), whole(), name("q")} {
		for _, s := range append(lex.Words(), "", "1", "1a", "a b", " a", "a ", "a-", "-", "a.b", "\x00", "\xff", "\u00e9", strings.Repeat("x", 25)) {
			checkFresh(t, n, s, false)
		}
		for _, s := range []string{"a", "_", "a1", "iF", "iff", "fun", "Read", "main", strings.Repeat("x", 24)} {
			checkFresh(t, n, s, true)
		}
	}
}

func TestFreshOfNamesThatOneNodeBears(t *testing.T) {
	for s, bearing := range map[string]string{
		"func q(a) { var b = a; q(b); }":                        "a b q",
		"func q() { }":                                          "q",
		"func f(q) { }":                                         "f q",
		"func f() { var q = 1; }":                               "f q",
		"func f() { print q; }":                                 "f q",
		"func f() { q = 1; }":                                   "f q",
		"func f() { q[1] = 1; }":                                "f q",
		"func f() { q(); }":                                     "f q",
		"func f() { print [1; -q(2)]; }":                        "f q",
		"func f() { { { print 1 + q; } } }":                     "f q",
		"func f() { } func g(a, b, q) { }":                      "a b f g q",
		"func f() { if 1 { } else { while 2 { var q = 1; } } }": "f q",
		"func f() { print 1; }":                                 "f",
		"":                                                      "",
	} {
		n := parsed(t, s)
		for _, name := range strings.Fields("a b f g q Q qq q1 _ main") {
			checkFresh(t, n, name, !slices.Contains(strings.Fields(bearing), name))
		}
	}
}

func TestFreshOfEachKind(t *testing.T) {
	for k := range 256 {
		kind := api.NodeKind(k)
		bears := slices.Contains([]api.NodeKind{api.Func, api.Param, api.Var, api.Name, api.Call}, kind)
		for _, n := range []api.Node{
			called(kind, "q"), {Kind: kind, Text: "q", Num: 7, Kids: []api.Node{{}}}, of(api.File, called(kind, "q")), of(kind, called(kind, "q")), called(kind, "q", called(kind, "r")),
			of(api.Block, num(1), of(0, num(2), called(kind, "q")), num(3)), whole(of(api.Print, called(kind, "q"))),
		} {
			checkFresh(t, n, "q", !bears)
			checkFresh(t, n, "p", true)
		}
		checkFresh(t, called(kind, "q", called(kind, "r"), name("s")), "r", !bears)
		checkFresh(t, called(kind, "q", called(kind, "r"), name("s")), "s", false)
	}
	// Texts that are no names are borne, too, but may not be.
	checkFresh(t, name("if"), "if", false)
	checkFresh(t, name(""), "", false)
	checkFresh(t, called(api.Binary, "q", name("a"), name("b")), "q", true)
	checkFresh(t, called(api.Unary, "q", name("a")), "q", true)
}

func TestFreshNamesMayBeTaken(t *testing.T) {
	m := &maker{Rand: rand.New(rand.NewSource(99))}
	for range 300 {
		n := parsed(t, m.file())
		names := tree.Names(n)
		for _, name := range []string{"a", "b", "c", "d", "f", "g", "h", "none", "other", "if"} {
			checkFresh(t, n, name, !slices.Contains(names, name) && name != "if")
		}
		want := bind.Binders(n)
		for at, b := range want {
			made := n
			for _, path := range append([][]int{b.Path}, b.Uses...) {
				s, _ := tree.Get(made, path...)
				s.Text = "other"
				made = with(made, s, path)
			}
			again := slices.Clone(want)
			again[at].Name = "other"
			if got := bind.Binders(made); show(got) != show(again) {
				t.Fatalf("%s\n%q, asked: %q", text(made), show(got), show(again))
			}
		}
	}
}

// R3, R4: no argument is changed; what is told shares no memory with it, nor between two calls, nor two lists of it.

const sampleText = "func f(a, b) { if a == b { a[0] = f(a, f(b, b)); } var a = a; { var b = a; b = a; } } func g() { f(1, 2); }"

func sample(t *testing.T) api.Node {
	n := parsed(t, sampleText)
	// Room behind a row is the caller's, too.
	n.Kids[0].Kids[1].Kids = append(make([]api.Node, 0, 9), n.Kids[0].Kids[1].Kids...)
	return n
}

func TestNoArgumentIsChanged(t *testing.T) {
	n := sample(t)
	room := n.Kids[0].Kids[1].Kids[:9]
	was, behind := fmt.Sprint(n), fmt.Sprint(room)
	bind.Check(n)
	bind.Binders(n)
	bind.Fresh(n, "q")
	bind.Fresh(n, "a")
	bind.Check(n.Kids[0])
	if fmt.Sprint(n) != was || fmt.Sprint(room) != behind {
		t.Error("an argument was changed")
	}
}

func TestWhatIsToldIsNewMemory(t *testing.T) {
	n := sample(t)
	texts, rows, lists := map[*byte]int{}, map[*int]int{}, map[*[]int]int{}
	for _, s := range preorder(n) {
		if s.Text != "" {
			texts[unsafe.StringData(s.Text)] = 1
		}
	}
	one, two := bind.Binders(n), bind.Binders(n)
	if len(one) != 6 || !reflect.DeepEqual(one, two) || unsafe.SliceData(one) == unsafe.SliceData(two) {
		t.Fatal("two calls tell two things, or one list")
	}
	for _, b := range slices.Concat(one, two) {
		texts[unsafe.StringData(b.Name)]++
		for i := range b.Uses[:cap(b.Uses)] {
			lists[&b.Uses[:cap(b.Uses)][i]]++
		}
		for _, path := range append([][]int{b.Path}, b.Uses...) {
			for i := range path[:cap(path)] {
				rows[&path[:cap(path)][i]]++
			}
		}
	}
	most := 0
	for _, count := range texts {
		most = max(most, count)
	}
	for _, count := range rows {
		most = max(most, count)
	}
	for _, count := range lists {
		most = max(most, count)
	}
	if most != 1 || len(texts) < 20 || len(rows) < 100 || len(lists) < 20 {
		t.Error("memory is shared", most, len(texts), len(rows), len(lists))
	}
}

func TestWhatIsToldIsTheCallers(t *testing.T) {
	n := sample(t)
	want := show(plainBinders(n))
	first, kept := bind.Binders(n), bind.Binders(n)
	for i := range first {
		for _, path := range append([][]int{first[i].Path}, first[i].Uses...) {
			for j := range path {
				path[j] = 99
			}
		}
		first[i].Name = "changed"
		first[i].Uses = append(first[i].Uses, []int{99})
	}
	if show(kept) != want || show(bind.Binders(n)) != want {
		t.Error("what is told hangs on what was done with what was told")
	}
	n.Kids[0].Text = "changed"
	n.Kids[0].Kids[1].Kids[0] = api.Node{}
	if show(kept) != want {
		t.Error("what was told hangs on its argument")
	}
}
