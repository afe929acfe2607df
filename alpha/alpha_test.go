package alpha_test

import (
	"fmt"
	"math"
	"reflect"
	"runtime/debug"
	"slices"
	"strconv"
	"strings"
	"testing"
	"unsafe"

	"clerestory/alpha"
	"clerestory/api"
	"clerestory/bind"
	"clerestory/lex"
	"clerestory/parse"
	"clerestory/spell"
	"clerestory/tree"
)

// The chapter's words, written down once more.

// spot is a node of a tree, and the path to it.
type spot struct {
	api.Node
	path []int
}

func preorder(n api.Node, path ...int) []spot {
	l := []spot{{n, slices.Clone(path)}}
	for at, kid := range n.Kids {
		l = append(l, preorder(kid, append(slices.Clone(path), at)...)...)
	}
	return l
}

func bearsName(k api.NodeKind) bool {
	return slices.Contains([]api.NodeKind{api.Func, api.Param, api.Var, api.Name, api.Call}, k)
}

func isBinder(k api.NodeKind) bool {
	return k == api.Func || k == api.Param || k == api.Var
}

func isFile(n api.Node) bool {
	return n.Kind == api.File && tree.Right(n)
}

func isProgram(n api.Node) bool {
	return isFile(n) && bind.Check(n) == (api.Fault{})
}

// body tells of a program all that is the same in each one that it is alike.
func body(n api.Node) string {
	var b []byte
	put := func(path []int, more ...int64) {
		for _, at := range path {
			b = append(strconv.AppendInt(b, int64(at), 10), ' ')
		}
		for _, number := range more {
			b = strconv.AppendInt(append(b, ' '), number, 10)
		}
		b = append(b, '\n')
	}
	for _, s := range preorder(n) {
		put(s.path, int64(s.Kind), s.Num, int64(len(s.Kids)))
		if !bearsName(s.Kind) {
			b = strconv.AppendQuote(b, s.Text)
		}
	}
	for _, binder := range bind.Binders(n) {
		put(binder.Path)
		for _, use := range binder.Uses {
			put(use, 1)
		}
	}
	return string(b)
}

// plainSame is P10.1.
func plainSame(a, b api.Node) bool {
	return isProgram(a) && isProgram(b) && body(a) == body(b)
}

// named tells n with the name as the Text of all that the paths lead to.
func named(n api.Node, name string, paths ...[]int) api.Node {
	for _, path := range paths {
		kid, _ := tree.Get(n, path...)
		kid.Text = name
		n = with(n, kid, path)
	}
	return n
}

// with tells n with kid where the path leads to.
func with(n, kid api.Node, path []int) api.Node {
	if len(path) == 0 {
		return kid
	}
	n.Kids = slices.Clone(n.Kids)
	n.Kids[path[0]] = with(n.Kids[path[0]], kid, path[1:])
	return n
}

// plainRename is P10.2.
func plainRename(n api.Node, name string, path []int) (api.Node, api.Errno) {
	if !isFile(n) {
		return api.Node{}, api.ErrShape
	}
	if !isProgram(n) {
		return api.Node{}, api.ErrParse
	}
	if at, ok := tree.Get(n, path...); !ok || !isBinder(at.Kind) {
		return api.Node{}, api.ErrNone
	}
	if !lex.Name(name) {
		return api.Node{}, api.ErrArg
	}
	made := n
	for _, b := range bind.Binders(n) {
		if slices.Equal(b.Path, path) {
			made = named(named(n, name, path), name, b.Uses...)
		}
	}
	if !plainSame(n, made) {
		return api.Node{}, api.ErrFresh
	}
	return made, api.OK
}

// What is told, held against that.

func text(n api.Node) string {
	s, err := spell.File(n)
	if err != api.OK {
		return fmt.Sprintf("%.2000s\n", fmt.Sprint(n))
	}
	return s
}

// parsed tells the tree of a text that is one.
func parsed(t *testing.T, s string) api.Node {
	t.Helper()
	n, fault := parse.File(s)
	if fault.Err != api.OK {
		t.Fatalf("%q: %v", s, fault)
	}
	return n
}

// program tells the tree of a text that is a program's.
func program(t *testing.T, s string) api.Node {
	t.Helper()
	n := parsed(t, s)
	if fault := bind.Check(n); fault != (api.Fault{}) {
		t.Fatalf("%q: %v", s, fault)
	}
	return n
}

// checkSame holds what is told of two trees, in either order, against what is asked.
func checkSame(t *testing.T, a, b api.Node, want bool) {
	t.Helper()
	if alpha.Same(a, b) != want || alpha.Same(b, a) != want {
		t.Errorf("%sand\n%sasked: %v", text(a), text(b), want)
	}
}

// checkRename holds what is told of a tree against the plain way, and against what follows; it tells the error.
func checkRename(t *testing.T, n api.Node, name string, path ...int) api.Errno {
	t.Helper()
	got, err := alpha.Rename(n, name, path...)
	want, wanted := plainRename(n, name, path)
	if err != wanted || !tree.Same(got, want) {
		t.Fatalf("%s%q at %v: %v\n%sasked: %v\n%s", text(n), name, path, err, text(got), wanted, text(want))
	}
	if err != api.OK {
		if !reflect.DeepEqual(got, api.Node{}) {
			t.Fatalf("%s%q at %v: a tree beside %v", text(n), name, path, err)
		}
		return err
	}
	checkSame(t, n, got, true)
	was, _ := tree.Get(n, path...)
	if back, err := alpha.Rename(got, was.Text, path...); err != api.OK || !tree.Same(back, n) {
		t.Fatalf("%s%q at %v, and back: %v\n%s", text(n), name, path, err, text(back))
	}
	return err
}

// renames holds what is told of a text against another text.
func renames(t *testing.T, s, name, want string, path ...int) {
	t.Helper()
	n := program(t, s)
	checkRename(t, n, name, path...)
	if got, err := alpha.Rename(n, name, path...); err != api.OK || !tree.Same(got, program(t, want)) {
		t.Errorf("%q, %q at %v: %v\n%sasked: %q", s, name, path, err, text(got), want)
	}
}

// refuses holds what is told of a text against an error.
func refuses(t *testing.T, s, name string, err api.Errno, path ...int) {
	t.Helper()
	if got := checkRename(t, parsed(t, s), name, path...); got != err {
		t.Errorf("%q, %q at %v: %v, asked: %v", s, name, path, got, err)
	}
}

func TestExamples(t *testing.T) {
	const first = "func f(a) { var b = a; }"
	one := program(t, first)
	checkSame(t, one, program(t, "func g(x) { var a = x; }"), true)
	checkSame(t, one, program(t, "func g(x) { var x = x; }"), true)
	renames(t, first, "b", "func f(b) { var b = b; }", 0, 0, 0)
	refuses(t, "func f(a) { var b = a; print a; }", "b", api.ErrFresh, 0, 0, 0)
}

// P10.1: by hand.

func TestProgramsThatDifferInNamesAlone(t *testing.T) {
	for _, pair := range [][2]string{
		{"", ""},
		{"func f() { }", "func f() { }"},
		{"func f() { }", "func g() { }"},
		{"func f(a, b) { }", "func f(b, a) { }"},
		{"func f(a, b) { print a - b; }", "func f(b, a) { print b - a; }"},
		{"func f() { } func g() { }", "func g() { } func f() { }"},
		{"func f() { f(); } func g() { f(); }", "func g() { g(); } func f() { g(); }"},
		{"func f() { g(); } func g() { f(); }", "func x() { y(); } func y() { x(); }"},
		{"func f(a) { return f(f(a)); }", "func a(f) { return a(a(f)); }"},
		{"func f(f) { f = f(f); }", "func f(g) { g = f(g); }"},
		{"func f() { var a = 1; var b = 2; a = b; }", "func f() { var b = 1; var a = 2; b = a; }"},
		{"func f(a) { var a = a; print a; }", "func f(a) { var b = a; print b; }"},
		{"func f(a) { { var a = a; print a; } }", "func f(a) { { var b = a; print b; } }"},
		{"func f() { { var a = 1; print a; } { var a = 2; print a; } }", "func f() { { var a = 1; print a; } { var b = 2; print b; } }"},
		{"func f() { var a = 1; { var a = a; { var a = a; } } }", "func f() { var a = 1; { var b = a; { var c = b; } } }"},
		{"func f() { if true { var a = 1; a = a; } else { var a = 1; } }", "func f() { if true { var c = 1; c = c; } else { var f = 1; } }"},
		{"func f(a) { while a { a[0] = [a; 1]; } }", "func g(b) { while b { b[0] = [b; 1]; } }"},
		{"func f(a) { } func g(a) { print a; }", "func f(a) { } func g(b) { print b; }"},
		{"func f(a) { print a; }", "func f(" + strings.Repeat("a", 24) + ") { print " + strings.Repeat("a", 24) + "; }"},
	} {
		checkSame(t, program(t, pair[0]), program(t, pair[1]), true)
	}
}

func TestProgramsOneUseOfWhichStandsForAnotherBinder(t *testing.T) {
	for _, pair := range [][2]string{
		{"func f(a, b) { print a; }", "func f(a, b) { print b; }"},
		{"func f(a, b) { print a - b; }", "func f(a, b) { print b - a; }"},
		{"func f(a, b) { print a - b; }", "func f(b, a) { print a - b; }"},
		{"func f(a, b) { print a; print a; print a; }", "func f(a, b) { print a; print a; print b; }"},
		{"func f(a, b) { print a; print b; print a; }", "func f(a, b) { print a; print b; print b; }"},
		{"func f() { f(); } func g() { }", "func f() { g(); } func g() { }"},
		{"func f() { f(); } func g() { f(); }", "func f() { f(); } func g() { g(); }"},
		{"func f() { } func g() { } func h() { f(); }", "func f() { } func g() { } func h() { h(); }"},
		{"func f(a) { var b = a; print a; }", "func f(a) { var a = a; print a; }"},
		{"func f(a) { var b = a; print a; }", "func f(a) { var b = a; print b; }"},
		{"func f() { var a = 1; var b = 2; a = 3; }", "func f() { var a = 1; var b = 2; b = 3; }"},
		{"func f(a) { { var b = 1; print a; } }", "func f(a) { { var b = 1; print b; } }"},
		{"func f(a) { { var b = 1; } { var b = 2; print b; } }", "func f(a) { { var b = 1; } { var b = 2; print a; } }"},
		{"func f() { var a = 1; { var b = a; { var c = b; } } }", "func f() { var a = 1; { var b = a; { var c = a; } } }"},
		{"func f(a) { print a[0]; } func g(a, b) { a[b] = a; }", "func f(a) { print a[0]; } func g(a, b) { a[b] = b; }"},
		{"func f(a, b) { f(a, b); }", "func f(a, b) { f(b, b); }"},
	} {
		checkSame(t, program(t, pair[0]), program(t, pair[1]), false)
		for _, s := range pair {
			checkSame(t, program(t, s), program(t, s), true)
		}
	}
}

func TestProgramsThatDifferInMoreThanNames(t *testing.T) {
	for _, pair := range [][2]string{
		// One Kind.
		{"func f(a) { print a; }", "func f(a) { return a; }"},
		{"func f() { print 1; }", "func f() { print true; }"},
		{"func f() { print 0; }", "func f() { print false; }"},
		{"func f(a) { print a[1]; }", "func f(a) { print [a; 1]; }"},
		{"func a() { var a = 1; print a; }", "func a() { var a = 1; print a(); }"},
		{"func f(a) { print a; }", "func f(a) { print read(); }"},
		{"func f() { print read(); }", "func f() { print 0; }"},
		{"func f(a) { print a; }", "func f(a) { var a = a; }"},
		{"func f(a) { print -a; }", "func f(a) { print len(a); }"},
		// One Num.
		{"func f() { print 1; }", "func f() { print 2; }"},
		{"func f() { print 0; }", "func f() { print 9223372036854775807; }"},
		{"func f() { print true; }", "func f() { print false; }"},
		{"func f(a) { print a + 1 + 2; }", "func f(a) { print a + 1 + 3; }"},
		{"func f() { print 4294967296; }", "func f() { print 0; }"},
		// One Text that is no name.
		{"func f() { print -1; }", "func f() { print !1; }"},
		{"func f(a) { print a + a; }", "func f(a) { print a - a; }"},
		{"func f(a) { print a < a; }", "func f(a) { print a <= a; }"},
		{"func f(a) { print a && a; }", "func f(a) { print a || a; }"},
		// One Kid more or less.
		{"", "func f() { }"},
		{"func f() { }", "func f() { } func g() { }"},
		{"func f() { }", "func f(a) { }"},
		{"func f(a) { }", "func f(a, b) { }"},
		{"func f() { }", "func f() { print 1; }"},
		{"func f() { print 1; }", "func f() { print 1; print 1; }"},
		{"func f(a) { if a { } }", "func f(a) { if a { } else { print a; } }"},
		{"func f() { f(); }", "func f(a) { f(1); }"},
		{"func f() { g(); } func g() { } func h(a) { }", "func f() { h(1); } func g() { } func h(a) { }"},
		// Where one stands.
		{"func f() { { } print 1; }", "func f() { { print 1; } }"},
		{"func f() { { { } } }", "func f() { { } { } }"},
		{"func f() { if 1 { print 1; } else { } }", "func f() { if 1 { } else { print 1; } }"},
		{"func f(a) { print a - 1 - 2; }", "func f(a) { print a - (1 - 2); }"},
		{"func f(a, b) { } func g() { }", "func f(a) { } func g(b) { }"},
		{"func f() { print 1; } func g() { }", "func f() { } func g() { print 1; }"},
		{"func f() { print 1; print 2; }", "func f() { print 2; print 1; }"},
	} {
		checkSame(t, program(t, pair[0]), program(t, pair[1]), false)
		for _, s := range pair {
			checkSame(t, program(t, s), program(t, s), true)
		}
	}
}

func TestFilesWithFaultsAreLikeNothing(t *testing.T) {
	for _, pair := range [][2]string{
		// Each time the second one differs in names alone, and has no fault.
		{"func f(a) { print b; }", "func f(a) { print a; }"},
		{"func f() { print f; var f = 1; }", ""},
		{"func f() { g(); }", "func f() { f(); }"},
		{"func f(a, a) { print a; }", "func f(a, b) { print a; }"},
		{"func f(a, a) { }", "func f(a, b) { }"},
		{"func f() { var a = 1; var a = 2; }", "func f() { var a = 1; var b = 2; }"},
		{"func f() { } func f() { }", "func f() { } func g() { }"},
		{"func f() { h(1); } func g(a) { } func h() { }", "func f() { g(1); } func g(a) { } func h() { }"},
		{"func f(a) { { var b = 1; } print b; }", "func f(a) { { var b = 1; } print a; }"},
		{"func f() { print a; } func g(a) { }", "func f() { } func g(a) { }"},
	} {
		bad, good := parsed(t, pair[0]), program(t, pair[1])
		if bind.Check(bad).Err == api.OK {
			t.Fatal(pair[0])
		}
		checkSame(t, bad, bad, false)
		checkSame(t, bad, good, false)
		checkSame(t, good, good, true)
	}
}

// P10.1: held against the plain way.

// sampleText has all kinds of nodes, and names of each sort in many places.
const sampleText = `func f(a, b) { if (a + 1) * -b == len([b; read()]) { a[0] = g(b, a)[1]; } else { while !true { f(1, 0); } } { var c = a; return c; } var c = 1; { var a = c; c = a; } print c; }
	func g(b, a) { var h = [a; b]; h[b] = f(a, h[0]); var n = z(); print n; } func h(f) { f = f; { var g = f; g = 2; } h(h(f)); } func z() { return false; } func n() { }`

func allKinds() []api.NodeKind {
	var all []api.NodeKind
	for k := api.File; k <= api.Do; k++ {
		all = append(all, k)
	}
	for k := api.Int; k <= api.Read; k++ {
		all = append(all, k)
	}
	return all
}

// changes calls do with each tree that is n but for one thing of one node, and with what that is.
func changes(n api.Node, do func(what string, made api.Node)) {
	for _, s := range preorder(n) {
		for _, k := range append(allKinds(), 0, 13, 30, 255) {
			kind := s.Node
			kind.Kind = k
			if k != s.Kind {
				do("Kind", with(n, kind, s.path))
			}
		}
		for _, other := range []int64{s.Num + 1, s.Num - 1, -s.Num - 1, s.Num + 1<<32, math.MinInt64} {
			number := s.Node
			number.Num = other
			do("Num", with(n, number, s.path))
		}
		for _, other := range []string{"", "-", "!", "+", "<=", "%", "if", "a", "b", "c", "f", "g", "h", "n", "z", "q"} {
			word := s.Node
			word.Text = other
			if other != s.Text && bearsName(s.Kind) {
				do("name", with(n, word, s.path))
			} else if other != s.Text {
				do("Text", with(n, word, s.path))
			}
		}
		for at := range len(s.Kids) + 1 {
			more := s.Node
			more.Kids = slices.Insert(slices.Clone(s.Kids), at, api.Node{Kind: api.Block})
			do("Kid", with(n, more, s.path))
			if at < len(s.Kids) {
				fewer := s.Node
				fewer.Kids = slices.Delete(slices.Clone(s.Kids), at, at+1)
				do("Kid", with(n, fewer, s.path))
			}
		}
	}
}

func TestEachSingleChangeOfAProgram(t *testing.T) {
	n := program(t, sampleText)
	kinds, programs, met := map[api.NodeKind]int{}, map[string]int{}, map[bool]int{}
	for _, s := range preorder(n) {
		kinds[s.Kind]++
	}
	if len(kinds) != len(allKinds()) {
		t.Error("kinds are missing", kinds)
	}
	changes(n, func(what string, made api.Node) {
		want := plainSame(n, made)
		if want && what != "name" {
			t.Errorf("alike, but for one %s", what)
		}
		if isProgram(made) {
			programs[what]++
			met[want]++
		}
		checkSame(t, n, made, want)
		checkSame(t, made, made, isProgram(made))
	})
	for _, what := range strings.Fields("Kind Num Text name Kid") {
		if programs[what] < 10 {
			t.Errorf("%d programs that differ in one %s", programs[what], what)
		}
	}
	if met[true] < 3 {
		t.Error(met)
	}
}

// bodies calls do with all rows of so many of the words that are a Block's text.
func bodies(words []string, count int, do func(body string)) {
	var grow func(body string, open, left int)
	grow = func(body string, open, left int) {
		if open > left {
			return
		}
		if left == 0 {
			do(body)
			return
		}
		for _, word := range words {
			switch {
			case word == "{":
				grow(body+word+" ", open+1, left-1)
			case word != "}":
				grow(body+word+" ", open, left-1)
			case open > 0:
				grow(body+word+" ", open-1, left-1)
			}
		}
	}
	grow("", 0, count)
}

// checkPairs holds each pair of the programs among the texts against the plain way.
func checkPairs(t *testing.T, texts []string, least int) {
	t.Helper()
	var all []api.Node
	var is []string
	for _, s := range texts {
		if n := parsed(t, s); isProgram(n) {
			all, is = append(all, n), append(is, body(n))
		}
	}
	met := map[bool]int{}
	for i, a := range all {
		for j, b := range all {
			want := is[i] == is[j]
			met[want]++
			if alpha.Same(a, b) != want {
				t.Fatalf("%sand\n%sasked: %v", text(a), text(b), want)
			}
		}
	}
	if met[true] < len(all)+least || met[false] < least {
		t.Error(len(all), met)
	}
}

func TestPairsOfAllSmallBlocks(t *testing.T) {
	var texts []string
	words := []string{"{", "}", "var a = 1;", "var b = 1;", "var a = b;", "a = b;", "b = a;", "print a;"}
	for count := range 4 {
		bodies(words, count, func(body string) {
			for _, params := range []string{"", "b", "a, b", "b, a"} {
				if count < 3 || params == "a, b" {
					texts = append(texts, "func f("+params+") { "+body+"}")
				}
			}
		})
	}
	checkPairs(t, texts, 90)
}

func TestPairsOfBlocksOfOneShape(t *testing.T) {
	names := []string{"a", "b", "c"}
	var texts []string
	for _, v := range names {
		for _, x := range names {
			for _, w := range names {
				for _, y := range names {
					for _, z := range names[:2] {
						texts = append(texts, "func f(a, b) { { var "+v+" = "+x+"; var "+w+" = "+y+"; print "+z+"; } print b; }")
					}
				}
			}
		}
	}
	checkPairs(t, texts, 90)
}

func TestPairsOfAllSmallFilesOfCalls(t *testing.T) {
	var texts []string
	heads := []string{"f()", "g()", "f(f)", "f(g)", "g(f)", "g(g)"}
	calls := []string{"f();", "g();", "f(1);", "print g(f);", "print f(g);", ""}
	for _, one := range heads {
		for _, a := range calls {
			for _, other := range heads {
				for _, b := range calls[:4] {
					texts = append(texts, "func "+one+" { "+a+" } func "+other+" { "+b+" }")
				}
			}
		}
	}
	checkPairs(t, texts, 90)
}

// P10.2: by hand.

func TestRenameTheBinderAndItsUses(t *testing.T) {
	const s = "func f(a, b) { var c = a; { var a = a + c; print a; } a[b] = a; if b { var d = c; d = a; } c = f(a, b); } func g(a) { f(a, g(1)); }"
	renames(t, s, "x", "func f(x, b) { var c = x; { var a = x + c; print a; } x[b] = x; if b { var d = c; d = x; } c = f(x, b); } func g(a) { f(a, g(1)); }", 0, 0, 0)
	renames(t, s, "x", "func f(a, x) { var c = a; { var a = a + c; print a; } a[x] = a; if x { var d = c; d = a; } c = f(a, x); } func g(a) { f(a, g(1)); }", 0, 0, 1)
	renames(t, s, "x", "func f(a, b) { var x = a; { var a = a + x; print a; } a[b] = a; if b { var d = x; d = a; } x = f(a, b); } func g(a) { f(a, g(1)); }", 0, 1, 0)
	renames(t, s, "x", "func f(a, b) { var c = a; { var x = a + c; print x; } a[b] = a; if b { var d = c; d = a; } c = f(a, b); } func g(a) { f(a, g(1)); }", 0, 1, 1, 0)
	renames(t, s, "x", "func f(a, b) { var c = a; { var a = a + c; print a; } a[b] = a; if b { var x = c; x = a; } c = f(a, b); } func g(a) { f(a, g(1)); }", 0, 1, 3, 1, 0)
	renames(t, s, "x", "func x(a, b) { var c = a; { var a = a + c; print a; } a[b] = a; if b { var d = c; d = a; } c = x(a, b); } func g(a) { x(a, g(1)); }", 0)
	renames(t, s, "x", "func f(a, b) { var c = a; { var a = a + c; print a; } a[b] = a; if b { var d = c; d = a; } c = f(a, b); } func x(a) { f(a, x(1)); }", 1)
	renames(t, s, "x", "func f(a, b) { var c = a; { var a = a + c; print a; } a[b] = a; if b { var d = c; d = a; } c = f(a, b); } func g(x) { f(x, g(1)); }", 1, 0, 0)
}

func TestRenameToTheNameThatItHas(t *testing.T) {
	n := program(t, sampleText)
	for _, b := range bind.Binders(n) {
		if got, err := alpha.Rename(n, b.Name, b.Path...); err != api.OK || !tree.Same(got, n) {
			t.Errorf("%q at %v: %v", b.Name, b.Path, err)
		}
	}
	for _, s := range []string{"func f() { }", "func f(a) { }", "func f() { var a = 1; }"} {
		for _, b := range bind.Binders(program(t, s)) {
			renames(t, s, b.Name, s, b.Path...)
		}
	}
}

func TestRenameToANameThatAnotherBinderBears(t *testing.T) {
	// One that would hide it, where it is used.
	refuses(t, "func f(a) { { var b = 1; print a; } }", "b", api.ErrFresh, 0, 0, 0)
	refuses(t, "func f(a) { var b = 1; a = 2; }", "b", api.ErrFresh, 0, 0, 0)
	refuses(t, "func f() { var a = 1; { { var b = 1; { a[0] = 1; } } } }", "b", api.ErrFresh, 0, 1, 0)
	refuses(t, "func f() { var a = 1; while true { var b = 2; var c = a; } }", "b", api.ErrFresh, 0, 1, 0)
	// The same, where it is not used in the other one's reach: ahead of it, in its own Kid, behind its Block.
	renames(t, "func f(a) { { print a; var b = 1; } }", "b", "func f(b) { { print b; var b = 1; } }", 0, 0, 0)
	renames(t, "func f(a) { { var b = a; } }", "b", "func f(b) { { var b = b; } }", 0, 0, 0)
	renames(t, "func f(a) { { var b = 1; print b; } print a; }", "b", "func f(b) { { var b = 1; print b; } print b; }", 0, 0, 0)
	renames(t, "func f() { var a = 1; { var b = a; print b; } print a; }", "b", "func f() { var b = 1; { var b = b; print b; } print b; }", 0, 1, 0)
	// One that it would hide, where that is used.
	refuses(t, "func f(a) { { var b = 1; print a; } }", "a", api.ErrFresh, 0, 1, 0, 0)
	refuses(t, "func f(a) { var b = 1; if true { a = 2; } }", "a", api.ErrFresh, 0, 1, 0)
	refuses(t, "func f() { var a = 1; { var b = 2; { print b + a; } } }", "a", api.ErrFresh, 0, 1, 1, 0)
	// The same, where that is not used in its reach.
	renames(t, "func f(a) { { var b = a; print b; } print a; }", "a", "func f(a) { { var a = a; print a; } print a; }", 0, 1, 0, 0)
	renames(t, "func f(a) { print a; var b = 1; print b; }", "a", "func f(a) { print a; var a = 1; print a; }", 0, 1, 1)
	renames(t, "func f() { var a = 1; { var b = 2; { var a = b; print a; } } }", "a", "func f() { var a = 1; { var a = 2; { var a = a; print a; } } }", 0, 1, 1, 0)
	// One beside it.
	refuses(t, "func f(a, b) { }", "b", api.ErrFresh, 0, 0, 0)
	refuses(t, "func f(a, b) { }", "a", api.ErrFresh, 0, 0, 1)
	refuses(t, "func f() { var a = 1; var b = 1; }", "b", api.ErrFresh, 0, 1, 0)
	refuses(t, "func f() { var a = 1; { } var b = 1; }", "a", api.ErrFresh, 0, 1, 2)
	refuses(t, "func f() { } func g() { }", "g", api.ErrFresh, 0)
	refuses(t, "func f() { } func h() { } func g() { }", "f", api.ErrFresh, 2)
	refuses(t, "func f() { f(); } func g(a) { g(1); }", "f", api.ErrFresh, 1)
	// One where it does not matter: in another Block, another Func.
	renames(t, "func f() { { var a = 1; print a; } { var b = 2; print b; } }", "b", "func f() { { var b = 1; print b; } { var b = 2; print b; } }", 0, 1, 0, 0)
	renames(t, "func f() { if true { var a = 1; } else { var b = 2; } }", "a", "func f() { if true { var a = 1; } else { var a = 2; } }", 0, 1, 0, 2, 0)
	renames(t, "func f() { { var a = 1; } var b = 2; }", "b", "func f() { { var b = 1; } var b = 2; }", 0, 1, 0, 0)
	renames(t, "func f(a) { print a; } func g(b) { print b; }", "b", "func f(b) { print b; } func g(b) { print b; }", 0, 0, 0)
}

func TestFuncsAreAnotherSort(t *testing.T) {
	// The name of a Func, for a Param or a Var; and the other way round.
	renames(t, "func f(a) { print a; f(a); }", "f", "func f(f) { print f; f(f); }", 0, 0, 0)
	renames(t, "func f(a) { g(a); } func g(b) { }", "g", "func f(g) { g(g); } func g(b) { }", 0, 0, 0)
	renames(t, "func f() { var a = f(); print a; }", "f", "func f() { var f = f(); print f; }", 0, 1, 0)
	renames(t, "func f(a) { f(a); }", "a", "func a(a) { a(a); }", 0)
	renames(t, "func f() { var a = f(); print a; f(); }", "a", "func a() { var a = a(); print a; a(); }", 0)
	renames(t, "func f(a) { var b = 1; } func g() { f(1); }", "b", "func b(a) { var b = 1; } func g() { b(1); }", 0)
	// Of one name, the one's uses are not the other's.
	renames(t, "func a(a) { a(a); a = a(1); }", "b", "func b(a) { b(a); a = b(1); }", 0)
	renames(t, "func a(a) { a(a); a = a(1); }", "b", "func a(b) { a(b); b = a(1); }", 0, 0, 0)
	renames(t, "func a() { var a = a(); print a + a(); }", "b", "func a() { var b = a(); print b + a(); }", 0, 1, 0)
}

func TestAVarWhoseOwnKidHasItsName(t *testing.T) {
	renames(t, "func f(a) { var a = a; print a; }", "b", "func f(a) { var b = a; print b; }", 0, 1, 0)
	renames(t, "func f(a) { var a = a; print a; }", "b", "func f(b) { var a = b; print a; }", 0, 0, 0)
	renames(t, "func f(a) { var b = a; print b; }", "a", "func f(a) { var a = a; print a; }", 0, 1, 0)
	renames(t, "func f() { var a = 1; { var a = a + a; { var a = -a; print a; } } }", "b", "func f() { var a = 1; { var b = a + a; { var a = -b; print a; } } }", 0, 1, 1, 0)
	refuses(t, "func f(a) { var b = a; print a; }", "a", api.ErrFresh, 0, 1, 0)
	refuses(t, "func f(a) { var b = a; print a; print b; }", "b", api.ErrFresh, 0, 0, 0)
}

func TestAFuncThatIsCalledAheadOfItAndInItself(t *testing.T) {
	const s = "func f() { g(h(1)); } func g(a) { g(a); return h(a); } func h(a) { print g(h(a)); }"
	renames(t, s, "x", "func f() { x(h(1)); } func x(a) { x(a); return h(a); } func h(a) { print x(h(a)); }", 1)
	renames(t, s, "a", "func f() { g(a(1)); } func g(a) { g(a); return a(a); } func a(a) { print g(a(a)); }", 2)
	refuses(t, s, "h", api.ErrFresh, 1)
	refuses(t, s, "f", api.ErrFresh, 2)
}

func TestBindersWithoutUses(t *testing.T) {
	renames(t, "func f() { }", "main", "func main() { }", 0)
	renames(t, "func f(a, b) { print b; }", "c", "func f(c, b) { print b; }", 0, 0, 0)
	renames(t, "func f(a) { var b = a; }", "c", "func f(a) { var c = a; }", 0, 1, 0)
	renames(t, "func f(a) { var b = 1; }", "a", "func f(a) { var a = 1; }", 0, 1, 0)
	refuses(t, "func f(a) { var b = 1; print a; }", "a", api.ErrFresh, 0, 1, 0)
	refuses(t, "func f(a, b) { }", "b", api.ErrFresh, 0, 0, 0)
}

// P10.2: errors.

var noNames = append(lex.Words(), "", "1", "1a", "a b", " a", "a ", "a-", "-", "!", "a.b", "\x00", "\xff", "\u00e9", strings.Repeat("x", 25), strings.Repeat("x", 1<<16))

var someNames = []string{"a", "b", "c", "f", "g", "h", "n", "z", "q", "_", "a1", "iF", "iff", "Read", "main", strings.Repeat("x", 24)}

func TestRenameOfEachNode(t *testing.T) {
	n := program(t, sampleText)
	met := map[api.Errno]int{}
	for _, s := range preorder(n) {
		for _, name := range someNames {
			err := checkRename(t, n, name, s.path...)
			if (err == api.ErrNone) == isBinder(s.Kind) {
				t.Errorf("%q at %v: %v", name, s.path, err)
			}
			met[err]++
		}
		for _, name := range noNames {
			want := api.ErrNone
			if isBinder(s.Kind) {
				want = api.ErrArg
			}
			if err := checkRename(t, n, name, s.path...); err != want {
				t.Errorf("%.30q at %v: %v", name, s.path, err)
			}
		}
	}
	if met[api.OK] < 100 || met[api.ErrFresh] < 30 {
		t.Error(met)
	}
}

func TestPathsThatLeadNowhere(t *testing.T) {
	n := program(t, sampleText)
	nowhere := func(path ...int) {
		for _, name := range []string{"x", "a", "f", "if", ""} {
			if err := checkRename(t, n, name, path...); err != api.ErrNone {
				t.Errorf("%q at %v: %v", name, path, err)
			}
		}
	}
	for _, s := range preorder(n) {
		for _, at := range []int{len(s.Kids), len(s.Kids) + 1, -1, -len(s.Kids), math.MaxInt, math.MinInt, 1 << 32} {
			if at < 0 || at >= len(s.Kids) {
				nowhere(append(slices.Clone(s.path), at)...)
				nowhere(append(slices.Clone(s.path), at, 0)...)
			}
		}
		if isBinder(s.Kind) {
			nowhere(append(slices.Clone(s.path), 0)...)
			nowhere(append(slices.Clone(s.path), make([]int, 100)...)...)
		}
	}
	nowhere(make([]int, 1<<16)...)
	n = program(t, "")
	nowhere()
	nowhere(0)
}

func TestFilesThatAreNoPrograms(t *testing.T) {
	for _, s := range []string{
		"func f(a) { print x; }", "func f(a) { g(); }", "func f(a, a) { }", "func f(a) { var b = 1; var b = 1; }", "func f(a) { } func f() { }", "func f(a) { f(); }", "func f(a) { f(1, 2); }",
		"func f(a) { } func g() { print a; }", "func f(a) { print b; var b = 1; }",
	} {
		// Whatever else there is: names that are none, paths that lead nowhere, and what the new name would mend.
		for _, name := range []string{"x", "a", "b", "f", "g", "if", ""} {
			for _, path := range [][]int{{0}, {0, 0, 0}, {0, 0, 1}, {0, 1, 0}, nil, {0, 1}, {7}, {-1}} {
				refuses(t, s, name, api.ErrParse, path...)
			}
		}
	}
}

func of(kind api.NodeKind, kids ...api.Node) api.Node { return api.Node{Kind: kind, Kids: kids} }

func called(kind api.NodeKind, text string, kids ...api.Node) api.Node {
	return api.Node{Kind: kind, Text: text, Kids: kids}
}

func num(n int64) api.Node { return api.Node{Kind: api.Int, Num: n} }

func name(s string) api.Node { return called(api.Name, s) }

// whole tells a file of a Func f, whose Block is of these statements.
func whole(statements ...api.Node) api.Node {
	return of(api.File, called(api.Func, "f", of(api.Params), of(api.Block, statements...)))
}

// checkShape holds what is told of what is no right File against what is asked.
func checkShape(t *testing.T, n api.Node) {
	t.Helper()
	for _, other := range []api.Node{n, whole(), of(api.File)} {
		if alpha.Same(n, other) || alpha.Same(other, n) {
			t.Errorf("%.300s is the same", fmt.Sprint(n.Kind, n.Text, n.Num))
		}
	}
	for _, name := range []string{"x", "f", "if"} {
		for _, path := range [][]int{{0}, nil, {0, 0, 0}, {9}, {-1}} {
			if got, err := alpha.Rename(n, name, path...); err != api.ErrShape || !reflect.DeepEqual(got, api.Node{}) {
				t.Errorf("%.300s, %q at %v: %v", fmt.Sprint(n.Kind, n.Text, n.Num), name, path, err)
			}
		}
	}
}

func TestWhatIsNoFile(t *testing.T) {
	for _, s := range preorder(program(t, sampleText))[1:] {
		if !tree.Right(s.Node) {
			t.Error(s)
		}
		checkShape(t, s.Node)
	}
	for k := range 256 {
		if api.NodeKind(k) == api.File {
			continue
		}
		for _, n := range []api.Node{{}, {Text: "a"}, {Num: 1}, {Kids: []api.Node{{}}}, whole(), whole(of(api.Return, num(1)))} {
			n.Kind = api.NodeKind(k)
			checkShape(t, n)
		}
	}
}

func TestFilesThatAreNotRight(t *testing.T) {
	f := whole().Kids[0]
	for _, n := range []api.Node{
		{Kind: api.File, Text: "x"}, {Kind: api.File, Num: 1}, {Kind: api.File, Num: -1},
		of(api.File, of(0)), of(api.File, of(api.Block)), of(api.File, of(api.File)), of(api.File, num(1)), of(api.File, f, of(api.Func)),
		of(api.File, called(api.Func, "f")), of(api.File, called(api.Func, "if", f.Kids...)), of(api.File, called(api.Func, "", f.Kids...)),
		whole(num(1)), whole(of(api.Print)), whole(of(api.Print, num(-1))), whole(of(api.Print, name(""))), whole(called(api.Print, "x", num(1))), whole(of(api.Print, called(api.Int, "1"))),
		whole(of(api.Print, called(api.Binary, "=", num(1), num(1)))), whole(called(api.Var, "x")), whole(called(api.Var, "var", num(1))), whole(of(api.Set, num(1), num(1))),
		// With a fault of names, too.
		whole(of(api.Print, name("q")), of(api.Print, num(-1))), of(api.File, f, f, of(api.Func)),
	} {
		checkShape(t, n)
	}
}

func TestNoKidsAndNoneAreOne(t *testing.T) {
	n := program(t, "func f(a) { print a; } func g() { }")
	empty := n
	for _, s := range preorder(n) {
		if len(s.Kids) == 0 {
			kid := s.Node
			kid.Kids = []api.Node{}
			empty = with(empty, kid, s.path)
		}
	}
	checkSame(t, n, empty, true)
	got, err := alpha.Rename(empty, "b", 0, 0, 0)
	if want := program(t, "func f(b) { print b; } func g() { }"); err != api.OK || !tree.Same(got, want) {
		t.Error(err, text(got))
	}
	checkSame(t, of(api.File), api.Node{Kind: api.File, Kids: []api.Node{}}, true)
}

// Limits: nodes 40 deep, and more.

// deepest tells, by three ways, programs that are so many nodes deep: the deepest one is e, ahead of which stands the Var x.
func deepest(nodes int, e api.Node) []api.Node {
	x, far, statement, block := called(api.Var, "x", num(1)), e, of(api.Print, e), []api.Node{called(api.Var, "x", num(1)), of(api.Print, e)}
	for range nodes - 5 {
		far = called(api.Unary, "-", far)
		statement = of(api.Block, statement)
		block = []api.Node{of(api.Block, block...)}
	}
	return []api.Node{whole(x, of(api.Print, far)), whole(x, statement), whole(block...)}
}

func TestNodesAsDeepAsMayBe(t *testing.T) {
	for way, n := range deepest(40, name("x")) {
		binders := bind.Binders(n)
		if len(binders) != 2 || len(binders[1].Uses) != 1 || len(binders[1].Uses[0]) != 39 {
			t.Fatal(way, binders)
		}
		for _, name := range []string{"y", "f", "x"} {
			if err := checkRename(t, n, name, binders[1].Path...); err != api.OK {
				t.Error(way, name, err)
			}
			got, _ := alpha.Rename(n, name, binders[1].Path...)
			if use, _ := tree.Get(got, binders[1].Uses[0]...); use.Text != name {
				t.Error(way, use)
			}
		}
		checkSame(t, n, n, true)
		checkSame(t, n, deepest(40, num(1))[way], false)
		checkSame(t, n, deepest(39, name("x"))[way], false)
		checkSame(t, deepest(40, num(1))[way], deepest(40, num(2))[way], false)
		checkShape(t, deepest(41, name("x"))[way])
		if err := checkRename(t, deepest(40, name("y"))[way], "y", 0); err != api.ErrParse {
			t.Error(way, err)
		}
	}
}

// hiding tells a program of Blocks within each other, down to the deepest that may be: each has a Var of the name x that hides the one around it, which its own Kid uses.
func hiding(last api.Node) api.Node {
	n := of(api.Print, last)
	for range 35 {
		n = of(api.Block, called(api.Var, "x", name("x")), n)
	}
	return whole(called(api.Var, "x", num(1)), n)
}

func TestEachHidesTheOneAround(t *testing.T) {
	n := hiding(name("x"))
	other := n
	for at, b := range bind.Binders(n) {
		if err := checkRename(t, n, "y", b.Path...); err != api.OK {
			t.Fatal(at, err)
		}
		other, _ = alpha.Rename(other, fmt.Sprint("y", at), b.Path...)
	}
	checkSame(t, n, other, true)
	binders := bind.Binders(other)[1:]
	if len(tree.Names(other)) != 37 || len(binders) != 36 {
		t.Fatal(text(other))
	}
	// Each is used in the next one's own Kid alone: any name may be taken.
	for at, b := range binders {
		for far := at % 7; far < len(binders); far += 7 {
			if err := checkRename(t, other, binders[far].Name, b.Path...); err != api.OK {
				t.Errorf("%q for %q: %v", binders[far].Name, b.Name, err)
			}
		}
	}
	// With one more use of the Var far out, down in the last Block, none within may take its name, nor it theirs.
	first, last := binders[0], binders[len(binders)-1]
	other = named(other, first.Name, last.Uses...)
	for _, b := range binders[1:] {
		for _, err := range []api.Errno{checkRename(t, other, first.Name, b.Path...), checkRename(t, other, b.Name, first.Path...)} {
			if err != api.ErrFresh {
				t.Errorf("%q and %q: %v", first.Name, b.Name, err)
			}
		}
	}
}

func TestTreesFarTooDeep(t *testing.T) {
	defer debug.SetMaxStack(debug.SetMaxStack(1 << 20)) // a call a node would break it
	e, s := name("f"), of(api.Block)
	for range 1 << 17 {
		e, s = called(api.Unary, "-", e), of(api.Block, s)
	}
	checkShape(t, whole(of(api.Print, e)))
	checkShape(t, whole(s))
	row := []api.Node{of(api.Block)}
	row[0].Kids = row
	checkShape(t, whole(row...))
	file := []api.Node{of(api.File)}
	file[0].Kids = file
	checkShape(t, file[0])
}

func TestWideFiles(t *testing.T) {
	const wide = 1 << 13
	n := of(api.File)
	for i := range wide {
		n.Kids = append(n.Kids, called(api.Func, fmt.Sprint("f", i), of(api.Params), of(api.Block, of(api.Do, called(api.Call, "f0")))))
	}
	got, err := alpha.Rename(n, "g", 0)
	if err != api.OK || !alpha.Same(n, got) {
		t.Fatal(err)
	}
	for i, f := range got.Kids {
		if f.Kids[1].Kids[0].Kids[0].Text != "g" || (f.Text == "g") != (i == 0) {
			t.Fatal(i)
		}
	}
	got.Kids[wide-1].Kids[1].Kids[0].Kids[0].Text = "f1"
	if alpha.Same(n, got) {
		t.Error("the last use stands for another Func")
	}
	if _, err := alpha.Rename(n, "f7", wide-1); err != api.ErrFresh {
		t.Error(err)
	}
}

// R3, R4: no argument is changed; what is told shares no memory with it, nor between two calls, nor two lists of it.

func roomy(t *testing.T) api.Node {
	n := program(t, sampleText)
	// Room behind a row is the caller's, too.
	n.Kids[0].Kids[1].Kids = append(make([]api.Node, 0, 9), n.Kids[0].Kids[1].Kids...)
	return n
}

func TestNoArgumentIsChanged(t *testing.T) {
	n, other := roomy(t), roomy(t)
	room := n.Kids[0].Kids[1].Kids[:9]
	was, behind := fmt.Sprint(n), fmt.Sprint(room)
	path := append(make([]int, 0, 9), 0, 0, 0)
	alpha.Same(n, other)
	alpha.Same(n, n.Kids[0])
	alpha.Rename(n, "x", path...)
	alpha.Rename(n, "b", path...)
	alpha.Rename(n, "if", path...)
	alpha.Rename(n, "x", 0)
	alpha.Rename(n, "x", path[:2]...)
	alpha.Rename(n.Kids[0], "x", path...)
	if fmt.Sprint(n) != was || fmt.Sprint(room) != behind || fmt.Sprint(other) != was || fmt.Sprint(path[:9]) != "[0 0 0 0 0 0 0 0 0]" {
		t.Error("an argument was changed")
	}
}

// memory counts whose the memory of nodes and texts is.
type memory struct {
	rows  map[*api.Node]int
	texts map[*byte]int
}

func (m memory) count(n api.Node) {
	if n.Text != "" {
		m.texts[unsafe.StringData(n.Text)]++
	}
	row := n.Kids[:cap(n.Kids)]
	for i := range row {
		m.rows[&row[i]]++
	}
	for _, kid := range n.Kids {
		m.count(kid)
	}
}

func TestWhatIsToldIsNewMemory(t *testing.T) {
	n := roomy(t)
	// One row may stand at two places of what is handed in.
	n.Kids[3].Kids[1].Kids = []api.Node{of(api.Return, of(api.Array, num(1), num(2)))}
	n.Kids[4].Kids[1].Kids = n.Kids[3].Kids[1].Kids
	fresh := strings.Repeat("x", 20)
	for _, path := range [][]int{{0}, {4}, {0, 0, 0}, {0, 1, 1, 0}} {
		one, err := alpha.Rename(n, fresh, path...)
		two, again := alpha.Rename(n, fresh, path...)
		if err != api.OK || again != api.OK || !reflect.DeepEqual(one, two) {
			t.Fatal(err, again)
		}
		told := memory{map[*api.Node]int{}, map[*byte]int{}}
		told.count(one)
		told.count(two)
		for row, count := range told.rows {
			if count != 1 {
				t.Fatal("a row is shared", *row)
			}
		}
		given := memory{map[*api.Node]int{}, map[*byte]int{unsafe.StringData(fresh): 1}}
		given.count(n)
		for row := range given.rows {
			if told.rows[row] != 0 {
				t.Fatal("a row is the caller's", *row)
			}
		}
		for text := range given.texts {
			if told.texts[text] != 0 {
				t.Fatal("a text is the caller's")
			}
		}
	}
	same, err := alpha.Rename(n, n.Kids[0].Text, 0)
	if err != api.OK || unsafe.StringData(same.Kids[0].Text) == unsafe.StringData(n.Kids[0].Text) || &same.Kids[0] == &n.Kids[0] {
		t.Error("what stays the same is the caller's")
	}
}

func TestWhatIsToldIsTheCallers(t *testing.T) {
	n := roomy(t)
	want := text(named(named(n, "x", []int{0, 0, 0}), "x", bind.Binders(n)[1].Uses...))
	first, _ := alpha.Rename(n, "x", 0, 0, 0)
	kept, _ := alpha.Rename(n, "x", 0, 0, 0)
	first.Kids[0].Kids[1].Kids[0] = api.Node{}
	first.Kids[1].Text = "changed"
	if again, _ := alpha.Rename(n, "x", 0, 0, 0); text(kept) != want || text(again) != want {
		t.Error("what is told hangs on what was done with what was told")
	}
	n.Kids[0].Text = "changed"
	n.Kids[0].Kids[1].Kids[0] = api.Node{}
	if text(kept) != want {
		t.Error("what was told hangs on its argument")
	}
}
