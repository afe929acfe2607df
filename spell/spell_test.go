package spell_test

import (
	"fmt"
	"math"
	"math/rand"
	"reflect"
	"runtime/debug"
	"slices"
	"strconv"
	"strings"
	"testing"
	"unsafe"

	"clerestory/api"
	"clerestory/lex"
	"clerestory/parse"
	"clerestory/spell"
	"clerestory/tree"
)

// The chapter's words, written down once more: what a node of a Kind is printed as.
// T is its Text, N its Num, B that as a Bool, 0 1 2 its Kids, * all of them with commas between, each behind a $.
var templates = map[api.NodeKind]string{
	api.Func: "func $T($0) $1", api.Params: "$*", api.Param: "$T",
	api.Var: "var $T = $0;", api.Set: "$0 = $1;", api.If: "if $0 $1", api.While: "while $0 $1",
	api.Return: "return $0;", api.Print: "print $0;", api.Do: "$0;",
	api.Int: "$N", api.Bool: "$B", api.Name: "$T", api.Call: "$T($*)", api.Read: "read()",
	api.Unary: "$T$0", api.Binary: "$0 $T $1", api.Index: "$0[$1]", api.Array: "[$0; $1]", api.Length: "len($0)",
}

// Ahead of what is said of a node, and behind it; no printed text has such bytes.
const begins, ends = "\x01", "\x02"

func levelOf(n api.Node) int {
	switch {
	case n.Kind == api.Unary:
		return 6
	case n.Kind != api.Binary:
		return 7
	}
	for i, level := range []string{" || ", " && ", " == != < <= > >= ", " + - ", " * / % "} {
		if strings.Contains(level, " "+n.Text+" ") {
			return i + 1
		}
	}
	panic(n.Text)
}

// inBrackets tells whether the Kid stands in ( ).
func inBrackets(n api.Node, at int) bool {
	kid := levelOf(n.Kids[at])
	switch {
	case n.Kind == api.Binary && at == 0:
		return kid < levelOf(n)
	case n.Kind == api.Binary:
		return kid <= levelOf(n)
	case n.Kind == api.Unary:
		return kid < 6
	case n.Kind == api.Index && at == 0:
		return kid < 7
	}
	return false
}

// plain is P8.1's text of a right node, so many steps deep, with begins and ends around each node.
func plain(n api.Node, steps int) string {
	var kids []string
	switch n.Kind {
	case api.File:
		for _, kid := range n.Kids {
			kids = append(kids, plain(kid, 0)+"\n")
		}
		return begins + strings.Join(kids, "\n") + ends
	case api.Block:
		text := "{\n"
		for _, kid := range n.Kids {
			text += strings.Repeat("  ", steps+1) + plain(kid, steps+1) + "\n"
		}
		return begins + text + strings.Repeat("  ", steps) + "}" + ends
	}
	for at, kid := range n.Kids {
		text := plain(kid, steps)
		if inBrackets(n, at) {
			text = "(" + text + ")"
		}
		kids = append(kids, text)
	}
	template := templates[n.Kind]
	if n.Kind == api.If && len(n.Kids[2].Kids) > 0 {
		template += " else $2"
	}
	parts := []string{"$T", n.Text, "$N", fmt.Sprint(n.Num), "$B", fmt.Sprint(n.Num == 1), "$*", strings.Join(kids, ", ")}
	for at, kid := range kids {
		parts = append(parts, fmt.Sprint("$", at), kid)
	}
	return begins + strings.NewReplacer(parts...).Replace(template) + ends
}

// plainFile tells the text and the marks out of what plain told.
func plainFile(n api.Node) (string, []api.Mark) {
	var text []byte
	var marks []api.Mark
	var open []int
	path := []int{-1}
	for _, b := range []byte(plain(n, 0)) {
		switch string(b) {
		case begins:
			path[len(path)-1]++
			marks = append(marks, api.Mark{Path: slices.Clone(path[1:]), Span: api.Span{From: len(text)}})
			open = append(open, len(marks)-1)
			path = append(path, -1)
		case ends:
			last := len(open) - 1
			marks[open[last]].Span.To = len(text)
			open = open[:last]
			path = path[:len(path)-1]
		default:
			text = append(text, b)
		}
	}
	return string(text), marks
}

// show is a tree in brackets.
func show(n api.Node) string {
	s := fmt.Sprint("k", n.Kind, n.Text)
	if n.Num != 0 {
		s += fmt.Sprint("#", n.Num)
	}
	if len(n.Kids) == 0 {
		return s
	}
	var kids []string
	for _, kid := range n.Kids {
		kids = append(kids, show(kid))
	}
	return s + "(" + strings.Join(kids, " ") + ")"
}

// checkShape holds both calls against P8.1's and P8.2's ErrShape.
func checkShape(t *testing.T, n api.Node) {
	t.Helper()
	s, err := spell.File(n)
	if s != "" || err != api.ErrShape {
		t.Errorf("File of what is no right File: %.100q %d", s, err)
	}
	l, err := spell.Marks(n)
	if len(l) != 0 || err != api.ErrShape {
		t.Errorf("Marks of what is no right File: %.100q %d", fmt.Sprint(l), err)
	}
}

// printed tells the text and the marks of a right file.
func printed(t *testing.T, n api.Node) (string, []api.Mark) {
	t.Helper()
	s, err := spell.File(n)
	l, other := spell.Marks(n)
	if err != api.OK || other != api.OK {
		t.Fatalf("%.300s: %d, %d", show(n), err, other)
	}
	return s, l
}

// check holds what is told of a right file against the plain way.
func check(t *testing.T, n api.Node) {
	t.Helper()
	s, l := printed(t, n)
	text, marks := plainFile(n)
	if s != text {
		t.Fatalf("%.300s:\n%.3000s\nasked:\n%.3000s", show(n), s, text)
	}
	same := func(a, b api.Mark) bool { return slices.Equal(a.Path, b.Path) && a.Span == b.Span }
	if !slices.EqualFunc(l, marks, same) {
		t.Fatalf("%.3000s\n%.3000s\nasked:\n%.3000s", s, fmt.Sprint(l), fmt.Sprint(marks))
	}
	checkParsed(t, n, s)
	checkSpans(t, n, s, l)
}

// checkParsed is P8.3: what is printed is parsed as the tree.
func checkParsed(t *testing.T, n api.Node, s string) {
	t.Helper()
	got, fault := parse.File(s)
	if fault != (api.Fault{}) || !tree.Same(got, n) {
		t.Fatalf("%.3000s\nis parsed as %.300s %v\nasked: %.300s", s, show(got), fault, show(n))
	}
}

// checkSpans is P8.3: each span lies in the one of the node around it, behind the one of the Kid ahead.
func checkSpans(t *testing.T, n api.Node, s string, l []api.Mark) {
	t.Helper()
	spans, last := map[string]api.Span{}, map[string]int{}
	for _, m := range l {
		if m.Span.From > m.Span.To || m.Span.From < 0 || m.Span.To > len(s) {
			t.Fatalf("%v: no span of %.300q", m, s)
		}
		spans[fmt.Sprint(m.Path)] = m.Span
		if len(m.Path) == 0 {
			continue
		}
		up := fmt.Sprint(m.Path[:len(m.Path)-1])
		around, known := spans[up]
		if !known || m.Span.From < max(around.From, last[up]) || m.Span.To > around.To {
			t.Fatalf("%v: not within %v, or not behind %d", m, around, last[up])
		}
		last[up] = m.Span.To
	}
	if whole := spans["[]"]; whole != (api.Span{To: len(s)}) {
		t.Fatalf("the file stands at %v of %d bytes", whole, len(s))
	}
	if nowhere := tree.Size(n) - len(spans); len(spans) != len(l) || nowhere != empties(n) {
		t.Fatalf("%d nodes are not marked, %d stand nowhere", nowhere, empties(n))
	}
}

// empties tells how many second Blocks of Ifs are empty.
func empties(n api.Node) int {
	count := 0
	if n.Kind == api.If && len(n.Kids[2].Kids) == 0 {
		count = 1
	}
	for _, kid := range n.Kids {
		count += empties(kid)
	}
	return count
}

// checkWhole holds what stands at each span, put where such a node may stand alone, against the node.
func checkWhole(t *testing.T, n api.Node) {
	t.Helper()
	s, l := printed(t, n)
	for _, m := range l {
		at, ok := tree.Get(n, m.Path...)
		text := s[m.Span.From:m.Span.To]
		around, path := "@", []int{}
		switch {
		case at.Kind == api.Func:
			path = []int{0}
		case at.Kind == api.Params:
			around, path = "func f(@){}", []int{0, 0}
		case at.Kind == api.Param:
			around, path = "func f(@){}", []int{0, 0, 0}
		case at.Kind >= api.Int:
			around, path = "func f(){print @;}", []int{0, 1, 0, 0}
		case at.Kind != api.File:
			around, path = "func f(){@}", []int{0, 1, 0}
		}
		alone, fault := parse.File(strings.ReplaceAll(around, "@", text))
		got, there := tree.Get(alone, path...)
		if !ok || !there || fault.Err != api.OK || !tree.Same(got, at) {
			t.Fatalf("at %v stands %.300q, %.300s: asked: %.300s", m.Path, text, show(got), show(at))
		}
		if strings.Trim(text, " \n") != strings.TrimSuffix(text, "\n") {
			t.Fatalf("at %v stands %.300q", m.Path, text)
		}
	}
}

// What nodes are made of.

func of(kind api.NodeKind, kids ...api.Node) api.Node { return api.Node{Kind: kind, Kids: kids} }

func called(kind api.NodeKind, text string, kids ...api.Node) api.Node {
	return api.Node{Kind: kind, Text: text, Kids: kids}
}

func num(n int64) api.Node { return api.Node{Kind: api.Int, Num: n} }

func truth(n int64) api.Node { return api.Node{Kind: api.Bool, Num: n} }

func name(s string) api.Node { return called(api.Name, s) }

func binary(sign string, a, b api.Node) api.Node { return called(api.Binary, sign, a, b) }

func params(names ...string) api.Node {
	n := of(api.Params)
	for _, s := range names {
		n.Kids = append(n.Kids, called(api.Param, s))
	}
	return n
}

// function tells a Func f of these statements.
func function(statements ...api.Node) api.Node {
	return called(api.Func, "f", params(), of(api.Block, statements...))
}

// whole tells a file of these statements.
func whole(statements ...api.Node) api.Node { return of(api.File, function(statements...)) }

var signs = strings.Fields("|| && == != < <= > >= + - * / %")

// One sign of each level, and one more of two of them.
var fewSigns = strings.Fields("|| && == + - * /")

func leaves() []api.Node {
	return []api.Node{num(0), num(math.MaxInt64), truth(0), truth(1), name("a"), called(api.Call, "f"), of(api.Read)}
}

// context puts an expression where one may stand.
type context func(e api.Node) api.Node

// operandOf tells the contexts of operators with these signs.
func operandOf(signs []string) []context {
	all := []context{
		func(e api.Node) api.Node { return called(api.Unary, "-", e) },
		func(e api.Node) api.Node { return called(api.Unary, "!", e) },
		func(e api.Node) api.Node { return of(api.Index, e, name("i")) },
		func(e api.Node) api.Node { return of(api.Index, name("r"), e) },
	}
	for _, sign := range signs {
		all = append(all,
			func(e api.Node) api.Node { return binary(sign, e, name("y")) },
			func(e api.Node) api.Node { return binary(sign, name("x"), e) },
			func(e api.Node) api.Node { return binary(sign, e, e) })
	}
	return all
}

// partOf tells the contexts in which nothing stands in ( ).
func partOf() []context {
	return []context{
		func(e api.Node) api.Node { return called(api.Call, "f", e) },
		func(e api.Node) api.Node { return called(api.Call, "f", e, e) },
		func(e api.Node) api.Node { return called(api.Call, "f", num(1), e, num(2)) },
		func(e api.Node) api.Node { return of(api.Array, e, num(1)) },
		func(e api.Node) api.Node { return of(api.Array, num(1), e) },
		func(e api.Node) api.Node { return of(api.Length, e) },
	}
}

func contexts() []context { return append(operandOf(signs), partOf()...) }

// statementsOf tells each statement that an expression stands in.
func statementsOf(e api.Node) []api.Node {
	return []api.Node{
		called(api.Var, "a", e),
		of(api.Set, name("a"), e),
		of(api.Set, of(api.Index, name("a"), e), e),
		of(api.If, e, of(api.Block), of(api.Block)),
		of(api.If, e, of(api.Block), of(api.Block, of(api.Print, e))),
		of(api.While, e, of(api.Block)),
		of(api.Return, e),
		of(api.Print, e),
		of(api.Do, called(api.Call, "f", e)),
	}
}

// around tells each statement that others may stand in, with these in it.
func around(l ...api.Node) []api.Node {
	return []api.Node{
		of(api.Block, l...),
		of(api.While, name("w"), of(api.Block, l...)),
		of(api.If, name("i"), of(api.Block, l...), of(api.Block)),
		of(api.If, name("i"), of(api.Block), of(api.Block, l...)),
		of(api.If, name("i"), of(api.Block, l...), of(api.Block, l...)),
	}
}

// checkText holds the text of what s is parsed as against what is asked.
func checkText(t *testing.T, s, want string) {
	t.Helper()
	n, fault := parse.File(s)
	got, err := spell.File(n)
	if fault.Err != api.OK || err != api.OK || got != want {
		t.Errorf("%s: %v %d\n%s\nasked:\n%s", s, fault, err, got, want)
	}
	check(t, n)
	checkWhole(t, n)
}

// checkExpression holds the text of an expression against what is asked.
func checkExpression(t *testing.T, e api.Node, want string) {
	t.Helper()
	n := whole(of(api.Print, e))
	got, err := spell.File(n)
	if err != api.OK || got != "func f() {\n  print "+want+";\n}\n" {
		t.Errorf("%s: %d %q, asked: %q", show(e), err, got, want)
	}
	check(t, n)
	checkWhole(t, n)
}

// P8.1: the chapter's examples.

func TestExamples(t *testing.T) {
	checkText(t, "func f(a){return (1+a)*-2-(3-a);}", "func f(a) {\n  return (1 + a) * -2 - (3 - a);\n}\n")
	checkText(t, "", "")
	for _, n := range []api.Node{of(api.File), {Kind: api.File, Kids: []api.Node{}}} {
		s, l := printed(t, n)
		if s != "" || len(l) != 1 || len(l[0].Path) != 0 || l[0].Span != (api.Span{}) {
			t.Errorf("a File without Kids: %q %v", s, l)
		}
	}
}

// P8.1: files and functions.

func TestFilesAndFunctions(t *testing.T) {
	for s, want := range map[string]string{
		"func f(){}":                               "func f() {\n}\n",
		"func f(a){}":                              "func f(a) {\n}\n",
		"func f(a,b){}":                            "func f(a, b) {\n}\n",
		"func f(a,b,_c9){}":                        "func f(a, b, _c9) {\n}\n",
		"func f(a,a){}func f(){}":                  "func f(a, a) {\n}\n\nfunc f() {\n}\n",
		"func f(){}func g(){}func h(){}":           "func f() {\n}\n\nfunc g() {\n}\n\nfunc h() {\n}\n",
		"func f(){return 1;}func g(x){}":           "func f() {\n  return 1;\n}\n\nfunc g(x) {\n}\n",
		"func f(){}func g(x,y){print x;print y;}":  "func f() {\n}\n\nfunc g(x, y) {\n  print x;\n  print y;\n}\n",
		"// left out\nfunc\tf ( )\r\n{ // too\n} ": "func f() {\n}\n",
	} {
		checkText(t, s, want)
	}
	long := strings.Repeat("x", api.MaxName)
	checkText(t, "func "+long+"("+long+"){"+long+"("+long+");}", "func "+long+"("+long+") {\n  "+long+"("+long+");\n}\n")
}

func TestFilesOfManyFuncs(t *testing.T) {
	for funcs := range 5 {
		for names := range 4 {
			n := of(api.File)
			for i := range funcs {
				f := called(api.Func, fmt.Sprint("f", i), params([]string{"a", "b", "c"}[:names]...), of(api.Block))
				if i%2 == 1 {
					f.Kids[1].Kids = []api.Node{of(api.Return, name("a"))}
				}
				n.Kids = append(n.Kids, f)
			}
			check(t, n)
			checkWhole(t, n)
		}
	}
}

// P8.1: statements.

func TestStatements(t *testing.T) {
	for s, want := range map[string]string{
		"":                                   "",
		"var a=1;":                           "  var a = 1;\n",
		"a=1;":                               "  a = 1;\n",
		"a[0]=1;":                            "  a[0] = 1;\n",
		"a[b||c]=d||e;":                      "  a[b || c] = d || e;\n",
		"return a;":                          "  return a;\n",
		"print a;":                           "  print a;\n",
		"f();":                               "  f();\n",
		"f(1);":                              "  f(1);\n",
		"f(1,(a),g());":                      "  f(1, a, g());\n",
		"{}":                                 "  {\n  }\n",
		"{}{}":                               "  {\n  }\n  {\n  }\n",
		"{{}}":                               "  {\n    {\n    }\n  }\n",
		"{return 1;}return 2;":               "  {\n    return 1;\n  }\n  return 2;\n",
		"if a{}":                             "  if a {\n  }\n",
		"if a{}else{}":                       "  if a {\n  }\n",
		"if a{f();}else{}":                   "  if a {\n    f();\n  }\n",
		"if a{}else{f();}":                   "  if a {\n  } else {\n    f();\n  }\n",
		"if a{f();}else{g();h();}":           "  if a {\n    f();\n  } else {\n    g();\n    h();\n  }\n",
		"if a{}else{{}}":                     "  if a {\n  } else {\n    {\n    }\n  }\n",
		"if a{}else{if b{}}":                 "  if a {\n  } else {\n    if b {\n    }\n  }\n",
		"if a{if b{}}else{if c{}else{f();}}": "  if a {\n    if b {\n    }\n  } else {\n    if c {\n    } else {\n      f();\n    }\n  }\n",
		"if (a||b){}{}":                      "  if a || b {\n  }\n  {\n  }\n",
		"while a{}":                          "  while a {\n  }\n",
		"while !a{a=false;}":                 "  while !a {\n    a = false;\n  }\n",
		"while a{while b{print 1;}}print 2;": "  while a {\n    while b {\n      print 1;\n    }\n  }\n  print 2;\n",
	} {
		checkText(t, "func f(){"+s+"}", "func f() {\n"+want+"}\n")
	}
}

func TestStatementsWithinEachOther(t *testing.T) {
	for _, s := range append(statementsOf(name("e")), around()...) {
		check(t, whole(s))
		check(t, whole(s, s))
		for _, one := range around(s) {
			check(t, whole(one))
			checkWhole(t, whole(one))
			for _, two := range around(one, s) {
				check(t, whole(s, two))
				for _, three := range around(s, two, one) {
					check(t, of(api.File, function(three), function(), function(one, three)))
				}
			}
		}
	}
}

func TestStepsAsManyAsMayBe(t *testing.T) {
	for which := range around() {
		for _, last := range append(statementsOf(num(1)), of(api.Block)) {
			s := last
			for tree.Right(whole(around(s)[which])) {
				s = around(s)[which]
				if which == 4 && tree.Size(s) > 5000 {
					break // both Blocks of each If have it: they double
				}
				check(t, whole(s))
			}
		}
	}
}

// P8.1: expressions.

func TestExpressions(t *testing.T) {
	a, b, c := name("a"), name("b"), name("c")
	minus := func(e api.Node) api.Node { return called(api.Unary, "-", e) }
	not := func(e api.Node) api.Node { return called(api.Unary, "!", e) }
	at := func(e, i api.Node) api.Node { return of(api.Index, e, i) }
	for _, l := range []struct {
		e    api.Node
		want string
	}{
		{num(0), "0"}, {num(7), "7"}, {num(10), "10"}, {num(math.MaxInt64), "9223372036854775807"}, {truth(1), "true"}, {truth(0), "false"}, {a, "a"}, {of(api.Read), "read()"},
		{called(api.Call, "f"), "f()"}, {called(api.Call, "f", a), "f(a)"}, {called(api.Call, "f", a, num(1), called(api.Call, "g")), "f(a, 1, g())"}, {called(api.Call, "f", binary("||", a, b), minus(c)), "f(a || b, -c)"},
		{of(api.Array, num(1), num(2)), "[1; 2]"}, {of(api.Array, binary("||", a, b), of(api.Array, a, not(b))), "[a || b; [a; !b]]"}, {of(api.Length, a), "len(a)"}, {of(api.Length, binary("||", a, b)), "len(a || b)"},
		{minus(num(1)), "-1"}, {minus(num(math.MaxInt64)), "-9223372036854775807"}, {not(truth(1)), "!true"}, {minus(minus(a)), "--a"}, {minus(minus(minus(a))), "---a"}, {not(minus(not(a))), "!-!a"},
		{minus(binary("-", a, b)), "-(a - b)"}, {minus(binary("*", a, b)), "-(a * b)"}, {not(binary("||", a, b)), "!(a || b)"}, {minus(at(a, b)), "-a[b]"}, {minus(called(api.Call, "f", a)), "-f(a)"},
		{at(a, b), "a[b]"}, {at(at(a, b), c), "a[b][c]"}, {at(a, at(b, c)), "a[b[c]]"}, {at(a, binary("||", b, c)), "a[b || c]"}, {at(minus(a), b), "(-a)[b]"}, {at(binary("*", a, b), c), "(a * b)[c]"}, {at(at(binary("+", a, b), c), a), "(a + b)[c][a]"},
		{at(num(1), num(2)), "1[2]"}, {at(truth(1), a), "true[a]"}, {at(of(api.Read), a), "read()[a]"}, {at(of(api.Length, a), b), "len(a)[b]"}, {at(of(api.Array, a, b), c), "[a; b][c]"}, {at(called(api.Call, "f"), a), "f()[a]"},
		{binary("-", binary("-", a, b), c), "a - b - c"}, {binary("-", a, binary("-", b, c)), "a - (b - c)"}, {binary("+", a, binary("*", b, c)), "a + b * c"}, {binary("*", a, binary("+", b, c)), "a * (b + c)"}, {binary("*", binary("+", a, b), c), "(a + b) * c"},
		{binary("||", a, binary("&&", b, c)), "a || b && c"}, {binary("&&", binary("||", a, b), c), "(a || b) && c"}, {binary("==", binary("<", a, b), c), "a < b == c"}, {binary("==", a, binary("<", b, c)), "a == (b < c)"}, {binary("==", a, binary("==", b, c)), "a == (b == c)"},
		{binary("-", a, minus(b)), "a - -b"}, {binary("-", minus(a), b), "-a - b"}, {binary("*", minus(a), minus(minus(b))), "-a * --b"}, {binary("==", not(a), not(b)), "!a == !b"}, {binary("%", a, binary("/", b, c)), "a % (b / c)"}, {binary("/", binary("%", a, b), c), "a % b / c"},
	} {
		checkExpression(t, l.e, l.want)
	}
}

func TestOperatorsWithinEachOther(t *testing.T) {
	a, b, c := name("a"), name("b"), name("c")
	for _, p := range signs {
		for _, q := range signs {
			levelP, levelQ := levelOf(called(api.Binary, p)), levelOf(called(api.Binary, q))
			left, right := "a "+p+" b "+q+" c", "a "+p+" b "+q+" c"
			if levelP < levelQ {
				left = "(a " + p + " b) " + q + " c"
			}
			if levelQ <= levelP {
				right = "a " + p + " (b " + q + " c)"
			}
			checkExpression(t, binary(q, binary(p, a, b), c), left)
			checkExpression(t, binary(p, a, binary(q, b, c)), right)
			for _, sign := range []string{"-", "!"} {
				checkExpression(t, called(api.Unary, sign, binary(q, binary(p, a, b), c)), sign+"("+left+")")
				checkExpression(t, called(api.Unary, sign, binary(p, a, binary(q, b, c))), sign+"("+right+")")
				checkExpression(t, binary(q, called(api.Unary, sign, binary(p, a, b)), c), sign+"(a "+p+" b) "+q+" c")
				checkExpression(t, binary(p, a, called(api.Unary, sign, binary(q, b, c))), "a "+p+" "+sign+"(b "+q+" c)")
			}
			checkExpression(t, of(api.Index, binary(p, a, b), binary(q, b, c)), "(a "+p+" b)[b "+q+" c]")
			checkExpression(t, binary(p, of(api.Index, binary(q, a, b), c), of(api.Index, binary(q, b, c), a)), "(a "+q+" b)[c] "+p+" (b "+q+" c)[a]")
			for _, r := range signs {
				check(t, whole(of(api.Print, binary(p, binary(q, a, b), binary(r, b, c)))))
			}
		}
	}
}

func TestExpressionsOfEachSortInEachOther(t *testing.T) {
	all := contexts()
	for _, leaf := range leaves() {
		check(t, whole(statementsOf(leaf)...))
		for _, one := range all {
			check(t, whole(statementsOf(one(leaf))...))
			for _, two := range all {
				n := whole(of(api.Print, two(one(leaf))))
				check(t, n)
				if leaf.Kind == api.Name {
					checkWhole(t, n)
					check(t, whole(statementsOf(two(one(leaf)))...))
				}
			}
		}
	}
}

func TestExpressionsThreeDeep(t *testing.T) {
	all := append(operandOf(fewSigns), partOf()[0], partOf()[4])
	for _, one := range all {
		for _, two := range all {
			for _, three := range all {
				check(t, whole(of(api.Print, three(two(one(name("a")))))))
			}
		}
	}
}

// grouping tells the places of the tokens ( and ) that stand around an operand.
func grouping(tokens []api.Token) [][2]int {
	var pairs [][2]int
	var open []int
	for i, token := range tokens {
		switch token.Text {
		case "(":
			open = append(open, i)
		case ")":
			from := open[len(open)-1]
			open = open[:len(open)-1]
			if ahead := tokens[from-1]; ahead.Kind != api.TokName && ahead.Text != "len" && ahead.Text != "read" {
				pairs = append(pairs, [2]int{from, i})
			}
		}
	}
	return pairs
}

func TestNoBracketsThatNeedNotBe(t *testing.T) {
	all := operandOf(fewSigns)
	count := 0
	for _, one := range all {
		for _, two := range all {
			for _, three := range all {
				n := whole(of(api.Print, three(two(one(name("a"))))))
				s, _ := printed(t, n)
				tokens, _ := lex.Tokens(s)
				for _, pair := range grouping(tokens) {
					count++
					from, to := tokens[pair[0]].At, tokens[pair[1]].At
					without := s[:from] + " " + s[from+1:to] + " " + s[to+1:]
					if got, fault := parse.File(without); fault.Err == api.OK && tree.Same(got, n) {
						t.Fatalf("%s is parsed as without %v", s, pair)
					}
				}
			}
		}
	}
	if count < 1000 {
		t.Error(count)
	}
}

// P8.1, P8.3: nodes 40 deep, and 41.

// doubles tells whether an expression stands more than once in the context: few of these within each other are too many nodes.
func doubles(one context) bool {
	return strings.Count(show(one(name("found"))), "found") > 1
}

func TestNodesAsDeepAsMayBe(t *testing.T) {
	all := slices.DeleteFunc(contexts(), doubles)
	for i, one := range all {
		for _, two := range all {
			e := name("a")
			for deep := 5; deep <= 40; deep++ { // of the whole file
				if deep >= 39 || deep%18 == i%18 {
					check(t, whole(of(api.Print, e)))
				}
				if deep%2 == 0 {
					e = one(e)
				} else {
					e = two(e)
				}
			}
			checkShape(t, whole(of(api.Print, e)))
		}
	}
}

func TestBlocksAsDeepAsMayBe(t *testing.T) {
	s := of(api.Block)
	for range 37 {
		check(t, whole(s))
		s = of(api.Block, s)
	}
	checkShape(t, whole(s))
	text, _ := printed(t, whole(s.Kids[0]))
	if !strings.Contains(text, "\n"+strings.Repeat("  ", 37)+"{\n"+strings.Repeat("  ", 37)+"}\n") {
		t.Error(text)
	}
}

// P8.2: marks.

func TestMarks(t *testing.T) {
	n := of(api.File,
		called(api.Func, "f", params("a", "bc"), of(api.Block,
			of(api.If, binary("*", binary("+", name("a"), num(1)), num(2)), of(api.Block), of(api.Block)),
			of(api.If, truth(1), of(api.Block), of(api.Block, of(api.Do, called(api.Call, "g")))),
			of(api.Set, of(api.Index, name("a"), num(0)), of(api.Index, called(api.Unary, "-", name("a")), num(1))))),
		called(api.Func, "g", params(), of(api.Block)))
	s, l := printed(t, n)
	first := "func f(a, bc) {\n  if (a + 1) * 2 {\n  }\n  if true {\n  } else {\n    g();\n  }\n  a[0] = (-a)[1];\n}"
	if want := first + "\n\nfunc g() {\n}\n"; s != want {
		t.Fatalf("%s\nasked:\n%s", s, want)
	}
	var got []string
	for _, m := range l {
		path := ""
		for _, at := range m.Path {
			path += strconv.Itoa(at)
		}
		got = append(got, path+" "+s[m.Span.From:m.Span.To])
	}
	want := []string{
		" " + s, "0 " + first, "00 a, bc", "000 a", "001 bc", "01 " + first[len("func f(a, bc) "):],
		"010 if (a + 1) * 2 {\n  }", "0100 (a + 1) * 2", "01000 a + 1", "010000 a", "010001 1", "01001 2", "0101 {\n  }",
		"011 if true {\n  } else {\n    g();\n  }", "0110 true", "0111 {\n  }", "0112 {\n    g();\n  }", "01120 g();", "011200 g()",
		"012 a[0] = (-a)[1];", "0120 a[0]", "01200 a", "01201 0", "0121 (-a)[1]", "01210 -a", "012100 a", "01211 1",
		"1 func g() {\n}", "10 ", "11 {\n}",
	}
	if !slices.Equal(got, want) {
		t.Errorf("%q\nasked:\n%q", got, want)
	}
	if at := l[28].Span; at != (api.Span{From: len(first) + 9, To: len(first) + 9}) {
		t.Errorf("Params without Kids stand at %v", at)
	}
	check(t, n)
	checkWhole(t, n)
}

func TestAnEmptySecondBlockStandsNowhere(t *testing.T) {
	for _, n := range []api.Node{of(api.Block), {Kind: api.Block, Kids: []api.Node{}}} {
		_, l := printed(t, whole(of(api.If, truth(1), n, n)))
		var paths []string
		for _, m := range l {
			paths = append(paths, fmt.Sprint(m.Path))
		}
		if want := []string{"[]", "[0]", "[0 0]", "[0 1]", "[0 1 0]", "[0 1 0 0]", "[0 1 0 1]"}; !slices.Equal(paths, want) {
			t.Errorf("%q", paths)
		}
	}
}

func TestMarksOfManyKids(t *testing.T) {
	n := of(api.File)
	for i := range 300 {
		f := called(api.Func, fmt.Sprint("f", i), params("a", "b"), of(api.Block))
		for j := range i % 7 {
			f.Kids[1].Kids = append(f.Kids[1].Kids, of(api.Print, num(int64(j)*1000)))
		}
		n.Kids = append(n.Kids, f)
	}
	check(t, n)
	checkWhole(t, n)
}

// P8.1 to P8.3: trees by chance.

// grow tells a node that may stand there, right but for how deep it may be; far down one that few others stand in.
func grow(r *rand.Rand, parent api.NodeKind, at, deep int) api.Node {
	far := deep > 9
	var fits []api.NodeKind
	for _, k := range allKinds() {
		if tree.Fits(parent, k, at) && !(far && k >= api.Unary && k != api.Call && k != api.Read) {
			fits = append(fits, k)
		}
	}
	n := api.Node{Kind: fits[r.Intn(len(fits))]}
	switch n.Kind {
	case api.Func, api.Param, api.Var, api.Name, api.Call:
		n.Text = []string{"a", "b", "_", "A1", "printed", "iff"}[r.Intn(6)]
	case api.Unary:
		n.Text = []string{"-", "!"}[r.Intn(2)]
	case api.Binary:
		n.Text = signs[r.Intn(len(signs))]
	case api.Int:
		n.Num = r.Int63() >> r.Intn(64)
	case api.Bool:
		n.Num = int64(r.Intn(2))
	}
	for i := range howMany(r, n.Kind, far) {
		n.Kids = append(n.Kids, grow(r, n.Kind, i, deep+1))
	}
	if n.Kind == api.Set && n.Kids[0].Kind == api.Index {
		n.Kids[0].Kids[0] = name("a")
	}
	return n
}

// howMany tells how many Kids a node of that Kind gets.
func howMany(r *rand.Rand, k api.NodeKind, far bool) int {
	switch k {
	case api.Params, api.Block, api.Call:
		if far {
			return 0
		}
		return r.Intn(4)
	case api.If:
		return 3
	case api.Func, api.Set, api.While, api.Binary, api.Index, api.Array:
		return 2
	case api.Var, api.Return, api.Print, api.Do, api.Unary, api.Length:
		return 1
	}
	return 0
}

func TestTreesByChance(t *testing.T) {
	r := rand.New(rand.NewSource(8))
	kinds := map[api.NodeKind]int{}
	for i := range 1000 {
		n := of(api.File)
		for j := range r.Intn(4) {
			n.Kids = append(n.Kids, grow(r, api.File, j, 2))
		}
		if !tree.Right(n) {
			checkShape(t, n)
			continue
		}
		check(t, n)
		if i%4 == 0 {
			checkWhole(t, n)
		}
		_, l := printed(t, n)
		for _, m := range l {
			at, _ := tree.Get(n, m.Path...)
			kinds[at.Kind]++
		}
	}
	for _, k := range allKinds() {
		if kinds[k] < 100 {
			t.Errorf("%d nodes of the Kind %d", kinds[k], k)
		}
	}
}

func TestWhatIsPrintedIsCanonical(t *testing.T) {
	r := rand.New(rand.NewSource(88))
	for range 300 {
		n := of(api.File, grow(r, api.File, 0, 2))
		if !tree.Right(n) {
			continue
		}
		s, _ := printed(t, n)
		again, fault := parse.File(s)
		if twice, _ := printed(t, again); fault.Err != api.OK || twice != s {
			t.Fatalf("%s\nis printed once more as\n%s", s, twice)
		}
	}
}

// P8.1, P8.2: ErrShape.

func allKinds() []api.NodeKind {
	var all []api.NodeKind
	for k := api.File; k <= api.Do; k++ {
		all = append(all, k)
	}
	for k := api.Int; k <= api.Read; k++ {
		all = append(all, k)
	}
	return all
}

func TestWhatIsNoFile(t *testing.T) {
	right := append(append(leaves(), statementsOf(num(1))...), around()...)
	right = append(right, function(), params(), params("a"), called(api.Param, "a"), of(api.Block))
	for _, one := range contexts() {
		right = append(right, one(name("a")))
	}
	seen := map[api.NodeKind]int{api.File: 1}
	for _, n := range right {
		if !tree.Right(n) {
			t.Error(show(n))
		}
		seen[n.Kind]++
		checkShape(t, n)
	}
	for _, k := range allKinds() {
		if seen[k] == 0 {
			t.Errorf("none of the Kind %d", k)
		}
	}
	for k := range 256 {
		if api.NodeKind(k) == api.File {
			continue
		}
		for _, n := range []api.Node{{}, {Text: "a"}, {Num: 1}, {Kids: []api.Node{{}}}, {Kids: []api.Node{function()}}, whole(), whole(of(api.Return, num(1)))} {
			n.Kind = api.NodeKind(k)
			checkShape(t, n)
		}
	}
}

func TestFilesThatAreNotRight(t *testing.T) {
	for _, n := range []api.Node{
		{Kind: api.File, Text: "x"}, {Kind: api.File, Num: 1}, {Kind: api.File, Num: -1},
		of(api.File, of(0)), of(api.File, of(api.Block)), of(api.File, of(api.File)), of(api.File, params()), of(api.File, num(1)),
		of(api.File, of(api.Func)), of(api.File, called(api.Func, "f")), of(api.File, called(api.Func, "f", params())), of(api.File, called(api.Func, "if", params(), of(api.Block))),
		of(api.File, function(), of(api.Func, params(), of(api.Block))),
		whole(num(1)), whole(of(api.Print)), whole(of(api.Print, num(-1))), whole(of(api.Print, truth(2))), whole(of(api.Print, name(""))), whole(of(api.Print, name("a b"))), whole(of(api.Print, name(strings.Repeat("x", 25)))),
		whole(of(api.Print, called(api.Unary, "+", num(1)))), whole(of(api.Print, called(api.Unary, "--", num(1)))), whole(of(api.Print, binary("=", num(1), num(1)))), whole(of(api.Print, binary("", num(1), num(1)))),
		whole(of(api.If, num(1), of(api.Block))), whole(of(api.If, num(1), of(api.Block), of(api.If))), whole(of(api.Do, num(1))), whole(of(api.Set, num(1), num(1))), whole(of(api.Set, of(api.Index, called(api.Call, "f"), num(1)), num(1))),
		whole(of(api.Set, of(api.Index, of(api.Index, name("a"), num(1)), num(1)), num(1))), whole(of(api.Print, of(api.Read, num(1)))), whole(of(api.Return, num(1), num(1))),
	} {
		checkShape(t, n)
	}
}

func TestFilesThatAreRightButForOneThing(t *testing.T) {
	n, _ := parse.File("func f(a,b){if (a+1)*-2==len([b;read()]){a[0]=f(a,b)[1];}else{while !true{f(1,2);}} {var c=1;return c;} print 0;} func g(){}")
	s, l := printed(t, n)
	right := 0
	for _, m := range l {
		at, _ := tree.Get(n, m.Path...)
		kind, word, value, fewer, more := at, at, at, at, at
		kind.Kind++
		word.Text += "+"
		value.Num--
		fewer.Kids = slices.Clone(at.Kids[:max(0, len(at.Kids)-1)])
		more.Kids = append(slices.Clone(at.Kids), of(api.Func))
		for _, changed := range []api.Node{kind, word, value, fewer, more} {
			made := with(n, changed, m.Path)
			if made.Kind == api.File && tree.Right(made) {
				right++
				check(t, made)
				continue
			}
			checkShape(t, made)
		}
	}
	if right < 5 || right > len(l)*2 {
		t.Error(right, len(l))
	}
	if again, _ := printed(t, n); again != s {
		t.Error(again)
	}
}

// with tells n with kid where the path leads to.
func with(n, kid api.Node, path []int) api.Node {
	if len(path) == 0 {
		return kid
	}
	n.Kids = slices.Clone(n.Kids)
	n.Kids[path[0]] = with(n.Kids[path[0]], kid, path[1:])
	return n
}

// R1: what is far too deep, or has no end, or is wide.

func TestTreesFarTooDeep(t *testing.T) {
	defer debug.SetMaxStack(debug.SetMaxStack(1 << 20))
	e, s := num(1), of(api.Block)
	for range 1 << 17 {
		e, s = called(api.Unary, "-", e), of(api.Block, s)
	}
	checkShape(t, whole(of(api.Print, e)))
	checkShape(t, whole(s))
	row := []api.Node{of(api.Block)}
	row[0].Kids = row
	checkShape(t, whole(row...))
	file := []api.Node{of(api.File)}
	file[0].Kids = file
	checkShape(t, file[0])
}

func TestWideTrees(t *testing.T) {
	const wide = 1 << 16
	n := whole(slices.Repeat([]api.Node{of(api.Print, name("a"))}, wide)...)
	s, l := printed(t, n)
	if s != "func f() {\n"+strings.Repeat("  print a;\n", wide)+"}\n" || len(l) != 4+2*wide {
		t.Error(len(s), len(l))
	}
	checkParsed(t, n, s)
	last := l[len(l)-2]
	if !slices.Equal(last.Path, []int{0, 1, wide - 1}) || s[last.Span.From:last.Span.To] != "print a;" || last.Span.To != len(s)-3 {
		t.Error(last)
	}
}

// R3, R4: no argument is changed; what is told shares no memory with it, nor between two calls, nor two lists of it.

func sample() api.Node {
	n, _ := parse.File("func f(a,b){if (a+1)*-2==len([b;read()]){a[0]=f(a,b)[1];}else{while !true{f(1,2);}} var c=1;} func g(){}")
	// Room behind a row is the caller's, too.
	row := append(make([]api.Node, 0, 9), n.Kids[0].Kids[1].Kids...)
	n.Kids[0].Kids[1].Kids = row
	return n
}

func TestNoArgumentIsChanged(t *testing.T) {
	n := sample()
	room := func() string { return show(of(api.Block, n.Kids[0].Kids[1].Kids[:9]...)) }
	was, behind := show(n), room()
	printed(t, n)
	checkShape(t, n.Kids[0])
	if show(n) != was || room() != behind {
		t.Error("an argument was changed")
	}
}

func TestWhatIsToldIsNewMemory(t *testing.T) {
	n := sample()
	one, first := printed(t, n)
	two, second := printed(t, n)
	if one != two || !reflect.DeepEqual(first, second) {
		t.Error("two calls tell two things")
	}
	texts := map[*byte]int{unsafe.StringData(one): 1, unsafe.StringData(two): 1}
	var look func(n api.Node)
	look = func(n api.Node) {
		if n.Text != "" {
			texts[unsafe.StringData(n.Text)] = 2
		}
		for _, kid := range n.Kids {
			look(kid)
		}
	}
	look(n)
	if len(texts) < 10 || texts[unsafe.StringData(one)] != 1 || unsafe.StringData(one) == unsafe.StringData(two) {
		t.Error("a text shares memory")
	}
	places := map[*int]int{}
	for _, m := range append(slices.Clone(first), second...) {
		for i := range m.Path[:cap(m.Path)] {
			places[&m.Path[:cap(m.Path)][i]]++
		}
	}
	for _, count := range places {
		if count != 1 {
			t.Fatal("two paths share memory")
		}
	}
	if unsafe.SliceData(first) == unsafe.SliceData(second) {
		t.Error("two lists share memory")
	}
}

func TestWhatIsToldIsTheCallers(t *testing.T) {
	n := sample()
	_, want := printed(t, sample())
	s, l := printed(t, n)
	text := strings.Clone(s)
	_, kept := printed(t, n)
	for i := range l {
		for j := range l[i].Path {
			l[i].Path[j] = 99
		}
		l[i].Path = append(l[i].Path, 99)
		l[i].Span = api.Span{From: 99, To: 99}
	}
	if again, marks := printed(t, n); again != text || !reflect.DeepEqual(marks, want) || !reflect.DeepEqual(kept, want) {
		t.Error("what is told hangs on what was done with what was told")
	}
	n.Kids[0].Text = "changed"
	n.Kids[0].Kids[1].Kids[0] = api.Node{}
	if s != text || !reflect.DeepEqual(kept, want) {
		t.Error("what was told hangs on its argument")
	}
}
