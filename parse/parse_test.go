package parse_test

import (
	"fmt"
	"maps"
	"math"
	"math/rand"
	"reflect"
	"runtime/debug"
	"slices"
	"strings"
	"testing"
	"unsafe"

	"clerestory/api"
	"clerestory/lex"
	"clerestory/parse"
	"clerestory/tree"
)

// The chapter's grammar, written down once more: a row's name, a colon, one of its ways.
const grammar = `
file: { function }
function: func name '(' [ name { , name } ] ')' block
block: '{' { statement } '}'
statement: var name = expression ;
statement: place = expression ;
statement: if expression block [ else block ]
statement: while expression block
statement: return expression ;
statement: print expression ;
statement: call ;
statement: block
place: name [ '[' expression ']' ]
expression: or
or: and { || and }
and: equal { && equal }
equal: sum { comparing sum }
comparing: ==
comparing: !=
comparing: <
comparing: <=
comparing: >
comparing: >=
sum: product { adding product }
adding: +
adding: -
product: unary { timing unary }
timing: *
timing: /
timing: %
unary: - unary
unary: ! unary
unary: suffix
suffix: prime { '[' expression ']' }
prime: integer
prime: true
prime: false
prime: name
prime: call
prime: '[' expression ; expression ']'
prime: len '(' expression ')'
prime: read '(' ')'
prime: '(' expression ')'
call: name '(' [ expression { , expression } ] ')'
`

// rule is one way of a row, without { } and [ ], which stand as rows of their own.
type rule struct {
	name  string
	parts []string
}

// rules is the grammar as such.
type rules struct {
	all     []rule
	of      map[string][]int // a row's ways
	empties map[string]int   // rows that may be nothing
	last    *chart           // the one that was asked last, and its tokens: the next text often begins like it
	row     []string
}

// brackets makes parts up to the closing one; each inner { } or [ ] becomes a row of its own.
func (g *rules) brackets(words []string, closing string) (parts, rest []string) {
	for words[0] != closing {
		word := words[0]
		words = words[1:]
		switch word {
		case "{", "[":
			var inner []string
			inner, words = g.brackets(words, map[string]string{"{": "}", "[": "]"}[word])
			made := fmt.Sprint("row ", len(g.all))
			if word == "{" {
				inner = append([]string{made}, inner...)
			}
			g.all = append(g.all, rule{made, nil}, rule{made, inner})
			parts = append(parts, made)
		default:
			parts = append(parts, strings.Trim(word, "'"))
		}
	}
	return parts, words[1:]
}

func plainGrammar() *rules {
	g := &rules{of: map[string][]int{}, empties: map[string]int{}}
	for line := range strings.SplitSeq(strings.TrimSpace(grammar), "\n") {
		name, way, _ := strings.Cut(line, ": ")
		parts, _ := g.brackets(append(strings.Fields(way), "the way's end"), "the way's end")
		g.all = append(g.all, rule{name, parts})
	}
	for i, r := range g.all {
		g.of[r.name] = append(g.of[r.name], i)
	}
	for more := true; more; {
		more = false
		for _, r := range g.all {
			empty := !slices.ContainsFunc(r.parts, func(part string) bool { return g.empties[part] == 0 })
			if empty && g.empties[r.name] == 0 {
				g.empties[r.name] = 1
				more = true
			}
		}
	}
	return g
}

// terminals tells all that a token may be to the grammar, rising.
func (g *rules) terminals() []string {
	all := map[string]int{}
	for _, r := range g.all {
		for _, part := range r.parts {
			if g.of[part] == nil {
				all[part] = 1
			}
		}
	}
	return slices.Sorted(maps.Keys(all))
}

// item is a way that was begun: so many parts of it are done, from that token on.
type item struct{ rule, done, from int }

// chart holds, ahead of each token, all ways that are begun in some file: what Earley's recogniser does.
// A token is one that some file has there, if a way is left behind it: each row of the grammar may be ended.
type chart struct {
	g    *rules
	sets [][]item
}

func newChart(g *rules) *chart {
	c := &chart{g: g}
	var first []item
	for _, i := range g.of["file"] {
		first = append(first, item{i, 0, 0})
	}
	c.push(first)
	return c
}

// push puts the set that follows of these items.
func (c *chart) push(set []item) {
	here := len(c.sets)
	seen := map[item]int{}
	for _, it := range set {
		seen[it] = 1
	}
	add := func(it item) {
		if seen[it] == 0 {
			seen[it] = 1
			set = append(set, it)
		}
	}
	for i := 0; i < len(set); i++ {
		it := set[i]
		r := c.g.all[it.rule]
		if it.done < len(r.parts) {
			part := r.parts[it.done]
			for _, way := range c.g.of[part] {
				add(item{way, 0, here})
			}
			if c.g.empties[part] == 1 {
				add(item{it.rule, it.done + 1, it.from})
			}
			continue
		}
		if it.from == here {
			continue // what is nothing was passed over where it was begun
		}
		for _, up := range c.sets[it.from] {
			if parts := c.g.all[up.rule].parts; up.done < len(parts) && parts[up.done] == r.name {
				add(item{up.rule, up.done + 1, up.from})
			}
		}
	}
	c.sets = append(c.sets, set)
}

// begun tells the chart that was asked last, back behind the tokens that both rows begin with.
func (g *rules) begun(tokens []api.Token) *chart {
	if g.last == nil {
		g.last = newChart(g)
	}
	same := 0
	for same < len(g.row) && same < len(tokens) && g.row[same] == terminal(tokens[same]) {
		same++
	}
	g.row = g.row[:same]
	g.last.sets = g.last.sets[:same+1]
	return g.last
}

func (c *chart) pop() { c.sets = c.sets[:len(c.sets)-1] }

// step goes behind the token, if some file has it there.
func (c *chart) step(terminal string) bool {
	var next []item
	for _, it := range c.sets[len(c.sets)-1] {
		if parts := c.g.all[it.rule].parts; it.done < len(parts) && parts[it.done] == terminal {
			next = append(next, item{it.rule, it.done + 1, it.from})
		}
	}
	if next == nil {
		return false
	}
	c.push(next)
	return true
}

// whole tells whether the file may end here.
func (c *chart) whole() bool {
	return slices.ContainsFunc(c.sets[len(c.sets)-1], func(it item) bool {
		r := c.g.all[it.rule]
		return r.name == "file" && it.done == len(r.parts) && it.from == 0
	})
}

// terminal tells what a token is to the grammar.
func terminal(t api.Token) string {
	switch t.Kind {
	case api.TokName:
		return "name"
	case api.TokInt:
		return "integer"
	}
	return t.Text
}

// endsOperand tells whether an operand may end with the token.
func endsOperand(t api.Token) bool {
	return t.Kind == api.TokName || t.Kind == api.TokInt || strings.Contains(" true false ) ] ", " "+t.Text+" ")
}

// levels holds the tokens that opened a level that is still open.
type levels struct {
	open []string
	last api.Token
}

// endUnaries closes the levels of the last - and !.
func (l *levels) endUnaries() {
	for len(l.open) > 0 && strings.Contains("-!", l.open[len(l.open)-1]) {
		l.open = l.open[:len(l.open)-1]
	}
}

// opens tells whether the token, which some file has there, opens a level, and how many are open ahead of it.
func (l *levels) opens(t api.Token) (opens bool, open int) {
	behind := endsOperand(l.last)
	if behind && t.Text != "[" && t.Text != "(" {
		l.endUnaries()
	}
	open = len(l.open)
	switch {
	case t.Kind != api.TokSign:
	case strings.Contains("([{", t.Text), strings.Contains("-!", t.Text) && !behind:
		l.open = append(l.open, t.Text)
		opens = true
	case strings.Contains(")]}", t.Text):
		l.open = l.open[:len(l.open)-1]
	}
	l.last = t
	return opens, open
}

// plainFault is P7.1's fault but for the last one, of how deep the node is.
func plainFault(g *rules, s string) ([]api.Token, api.Fault) {
	tokens, fault := lex.Tokens(s)
	if fault.Err != api.OK {
		return nil, fault
	}
	c, l := g.begun(tokens[:len(tokens)-1]), &levels{}
	for i, t := range tokens[:len(tokens)-1] {
		if i == len(g.row) {
			if !c.step(terminal(t)) {
				return nil, api.Fault{Err: api.ErrSyntax, At: t.At}
			}
			g.row = append(g.row, terminal(t))
		}
		if opens, open := l.opens(t); opens && open >= 120 {
			return nil, api.Fault{Err: api.ErrDeep, At: t.At}
		}
	}
	if !c.whole() {
		return nil, api.Fault{Err: api.ErrSyntax, At: len(s)}
	}
	return tokens[:len(tokens)-1], api.Fault{}
}

// What follows tells the tree of tokens that are a file, by cutting the row in pieces.

func find(row []api.Token, sign string) int {
	deep := 0
	for i, t := range row {
		if deep == 0 && t.Text == sign {
			return i
		}
		deep += depth(t)
	}
	return -1
}

// depth tells by how much a token goes into brackets, or out of them.
func depth(t api.Token) int {
	switch t.Text {
	case "(", "[", "{":
		return 1
	case ")", "]", "}":
		return -1
	}
	return 0
}

// half tells the place of the bracket that closes the one at the place.
func half(row []api.Token, at int) int {
	deep := 0
	for i := at; ; i++ {
		if deep += depth(row[i]); deep == 0 {
			return i
		}
	}
}

func cut(row []api.Token, sign string) (parts [][]api.Token) {
	for len(row) > 0 {
		at := find(row, sign)
		if at < 0 {
			return append(parts, row)
		}
		parts = append(parts, row[:at])
		row = row[at+1:]
	}
	return parts
}

func n(kind api.NodeKind, text string, kids ...api.Node) api.Node {
	return api.Node{Kind: kind, Text: text, Kids: kids}
}

func num(kind api.NodeKind, num int64) api.Node { return api.Node{Kind: kind, Num: num} }

func plainFile(row []api.Token) api.Node {
	file := n(api.File, "")
	for len(row) > 0 {
		closing := half(row, 2)
		end := half(row, closing+1)
		params := n(api.Params, "")
		for _, part := range cut(row[3:closing], ",") {
			params.Kids = append(params.Kids, n(api.Param, part[0].Text))
		}
		file.Kids = append(file.Kids, n(api.Func, row[1].Text, params, plainBlock(row[closing+1:end+1])))
		row = row[end+1:]
	}
	return file
}

func plainBlock(row []api.Token) api.Node {
	block := n(api.Block, "")
	row = row[1 : len(row)-1]
	for len(row) > 0 {
		var s api.Node
		s, row = plainStatement(row)
		block.Kids = append(block.Kids, s)
	}
	return block
}

func plainStatement(row []api.Token) (s api.Node, rest []api.Token) {
	switch row[0].Text {
	case "{":
		end := half(row, 0)
		return plainBlock(row[:end+1]), row[end+1:]
	case "if", "while":
		from := find(row, "{")
		end := half(row, from)
		e, b := plainExpression(row[1:from]), plainBlock(row[from:end+1])
		rest = row[end+1:]
		if row[0].Text == "while" {
			return n(api.While, "", e, b), rest
		}
		other := n(api.Block, "")
		if len(rest) > 0 && rest[0].Text == "else" {
			end = half(rest, 1)
			other, rest = plainBlock(rest[1:end+1]), rest[end+1:]
		}
		return n(api.If, "", e, b, other), rest
	}
	end := find(row, ";")
	part, rest := row[:end], row[end+1:]
	switch part[0].Text {
	case "var":
		return n(api.Var, part[1].Text, plainExpression(part[3:])), rest
	case "return":
		return n(api.Return, "", plainExpression(part[1:])), rest
	case "print":
		return n(api.Print, "", plainExpression(part[1:])), rest
	}
	if at := find(part, "="); at >= 0 {
		return n(api.Set, "", plainExpression(part[:at]), plainExpression(part[at+1:])), rest
	}
	return n(api.Do, "", plainExpression(part)), rest
}

// plainExpression cuts at the last operator of the loosest level: the ones ahead are the first kid.
func plainExpression(row []api.Token) api.Node {
	for _, level := range []string{" || ", " && ", " == != < <= > >= ", " + - ", " * / % "} {
		at, deep := 0, 0
		for i, t := range row {
			if deep == 0 && i > 0 && endsOperand(row[i-1]) && strings.Contains(level, " "+t.Text+" ") {
				at = i
			}
			deep += depth(t)
		}
		if at > 0 {
			return n(api.Binary, row[at].Text, plainExpression(row[:at]), plainExpression(row[at+1:]))
		}
	}
	if row[0].Text == "-" || row[0].Text == "!" {
		return n(api.Unary, row[0].Text, plainExpression(row[1:]))
	}
	last := 0
	for i := 0; i < len(row); i++ {
		if depth(row[i]) > 0 {
			if row[i].Text == "[" && i > 0 {
				last = i
			}
			i = half(row, i)
		}
	}
	if last > 0 {
		return n(api.Index, "", plainExpression(row[:last]), plainExpression(row[last+1:len(row)-1]))
	}
	return plainPrime(row)
}

func plainPrime(row []api.Token) api.Node {
	switch row[0].Text {
	case "true":
		return num(api.Bool, 1)
	case "false":
		return num(api.Bool, 0)
	case "(":
		return plainExpression(row[1 : len(row)-1])
	case "len":
		return n(api.Length, "", plainExpression(row[2:len(row)-1]))
	case "read":
		return n(api.Read, "")
	case "[":
		at := find(row[1:], ";") + 1
		return n(api.Array, "", plainExpression(row[1:at]), plainExpression(row[at+1:len(row)-1]))
	}
	if row[0].Kind == api.TokInt {
		var sum int64
		for _, digit := range row[0].Text {
			sum = sum*10 + int64(digit-'0')
		}
		return num(api.Int, sum)
	}
	if len(row) == 1 {
		return n(api.Name, row[0].Text)
	}
	call := n(api.Call, row[0].Text)
	for _, part := range cut(row[2:len(row)-1], ",") {
		call.Kids = append(call.Kids, plainExpression(part))
	}
	return call
}

func deepest(node api.Node) int {
	most := 0
	for _, kid := range node.Kids {
		most = max(most, deepest(kid))
	}
	return most + 1
}

// plain is P7.1, by the grammar alone.
func plain(g *rules, s string) (api.Node, api.Fault) {
	tokens, fault := plainFault(g, s)
	if fault.Err != api.OK {
		return api.Node{}, fault
	}
	if file := plainFile(tokens); deepest(file) <= 40 {
		return file, api.Fault{}
	}
	return api.Node{}, api.Fault{Err: api.ErrDeep}
}

// fails holds one text against what is asked, and P7.2.
func fails(t *testing.T, s string, want api.Node, fault api.Fault) {
	t.Helper()
	got, f := parse.File(s)
	if f != fault || !reflect.DeepEqual(got, want) {
		t.Fatalf("%.300q: %s %v; asked: %s %v", s, show(got), f, show(want), fault)
	}
	if f.Err == api.OK && !tree.Right(got) || f.At < 0 || f.At > len(s) {
		t.Fatalf("%.300q: not right, or the fault not within: %v", s, f)
	}
}

// check holds one text against the plain way.
func check(t *testing.T, g *rules, s string) {
	t.Helper()
	want, fault := plain(g, s)
	fails(t, s, want, fault)
}

// show is a tree in brackets.
func show(node api.Node) string {
	names := map[api.NodeKind]string{
		api.File: "File", api.Func: "Func", api.Params: "Params", api.Param: "Param", api.Block: "Block",
		api.Var: "Var", api.Set: "Set", api.If: "If", api.While: "While", api.Return: "Return", api.Print: "Print", api.Do: "Do",
		api.Int: "Int", api.Bool: "Bool", api.Name: "Name", api.Unary: "Unary", api.Binary: "Binary", api.Call: "Call",
		api.Index: "Index", api.Array: "Array", api.Length: "Length", api.Read: "Read",
	}
	s := names[node.Kind]
	if node.Text != "" {
		s += " " + node.Text
	}
	if node.Kind == api.Int || node.Kind == api.Bool || node.Num != 0 {
		s += fmt.Sprint(" ", node.Num)
	}
	if len(node.Kids) == 0 {
		return s
	}
	var kids []string
	for _, kid := range node.Kids {
		kids = append(kids, show(kid))
	}
	return s + "(" + strings.Join(kids, ", ") + ")"
}

// shown holds what a text is parsed as against a tree in brackets.
func shown(t *testing.T, s, want string) {
	t.Helper()
	got, fault := parse.File(s)
	if fault != (api.Fault{}) || show(got) != want {
		t.Errorf("%q: %s %v; asked: %s", s, show(got), fault, want)
	}
	check(t, plainGrammar(), s)
}

// faulty holds a text's fault against what is asked.
func faulty(t *testing.T, s string, err api.Errno, at int) {
	t.Helper()
	fails(t, s, api.Node{}, api.Fault{Err: err, At: at})
	check(t, plainGrammar(), s)
}

const (
	ahead  = "func f(){"
	behind = "}"
)

// samples have each way of each rule.
var samples = []string{
	"",
	"func f(){}",
	"func f(a){return a+1;}",
	"func f(a,b,c){} func g(){}",
	"func f(){var x=1; x=2; x[0]=3; f(); f(1); f(1,a,g(2)); {} {{}}}",
	"func f(){if a {} if a {x=1;} else {} while a {} while !a {print 1;} return 0; print 1;}",
	"func f(){if f(a)==[1;2][0] {if b {} else {if c {}}} else {while - -1 {}}}",
	"func f(){print a||b&&c==d+e*-f; print (a||b)&&(c==d)*(1-2-3);}",
	"func f(){print 1 == 2 != 3 < 4 <= 5 > 6 >= 7 + 8 - 9 * 10 / 11 % 12 && true || false;}",
	"func f(){print [3;0][1][2]; print len(a)[0]; print read()+len([1;read()]); print (1)[2]; print -a[!b][-1];}",
	"func f(){print ((a)); print f()[0](); }",
	"func main(n){var i=0; var s=[n;0]; while i<n {s[i]=i*i; i=i+1;} if s[n-1]>10||!(n==0) {print s;} else {print len(s);} return s;}",
}

// P7.1: the chapter's examples.

func TestExamples(t *testing.T) {
	shown(t, "func f(a){return a+1;}", "File(Func f(Params(Param a), Block(Return(Binary +(Name a, Int 1)))))")
	faulty(t, "func f(", api.ErrSyntax, 7)
	faulty(t, "func f(){x;}", api.ErrSyntax, 10)
}

// P7.1: each rule of the grammar, and each way of it.

func TestFilesAndFunctions(t *testing.T) {
	for s, want := range map[string]string{
		"":                          "File",
		" \t\r\n ":                  "File",
		"// nothing":                "File",
		"\n// a\n // b //\n":        "File",
		"func f(){}":                "File(Func f(Params, Block))",
		"func f(a){}":               "File(Func f(Params(Param a), Block))",
		"func f(a,b){}":             "File(Func f(Params(Param a, Param b), Block))",
		"func f(a,a,f){}":           "File(Func f(Params(Param a, Param a, Param f), Block))",
		"func f(){} func f(){}":     "File(Func f(Params, Block), Func f(Params, Block))",
		"func g(x){}func h(){{}{}}": "File(Func g(Params(Param x), Block), Func h(Params, Block(Block, Block)))",
	} {
		shown(t, s, want)
	}
}

func TestStatements(t *testing.T) {
	for s, want := range map[string]string{
		"":                       "",
		"var a=1;":               "Var a(Int 1)",
		"a=1;":                   "Set(Name a, Int 1)",
		"a[0]=1;":                "Set(Index(Name a, Int 0), Int 1)",
		"a[b[c]]=d[e];":          "Set(Index(Name a, Index(Name b, Name c)), Index(Name d, Name e))",
		"if a {}":                "If(Name a, Block, Block)",
		"if a {} else {}":        "If(Name a, Block, Block)",
		"if a {x=1;}":            "If(Name a, Block(Set(Name x, Int 1)), Block)",
		"if a {} else {x=1;}":    "If(Name a, Block, Block(Set(Name x, Int 1)))",
		"if a {} {}":             "If(Name a, Block, Block), Block",
		"if a {if b {} else {}}": "If(Name a, Block(If(Name b, Block, Block)), Block)",
		"while a {}":             "While(Name a, Block)",
		"while (a) {f();}":       "While(Name a, Block(Do(Call f)))",
		"return a;":              "Return(Name a)",
		"print a;":               "Print(Name a)",
		"f();":                   "Do(Call f)",
		"f(1);":                  "Do(Call f(Int 1))",
		"f(1,2);":                "Do(Call f(Int 1, Int 2))",
		"{}":                     "Block",
		"{{return 1;}}":          "Block(Block(Return(Int 1)))",
		"a=1; b=2;":              "Set(Name a, Int 1), Set(Name b, Int 2)",
	} {
		if want != "" {
			want = "(" + want + ")"
		}
		shown(t, ahead+s+behind, "File(Func f(Params, Block"+want+"))")
	}
}

func TestExpressions(t *testing.T) {
	for s, want := range map[string]string{
		"0":                      "Int 0",
		"10":                     "Int 10",
		"9223372036854775807":    fmt.Sprint("Int ", math.MaxInt64),
		"true":                   "Bool 1",
		"false":                  "Bool 0",
		"a":                      "Name a",
		"f()":                    "Call f",
		"f(1)":                   "Call f(Int 1)",
		"f(1,f(),g(a,b))":        "Call f(Int 1, Call f, Call g(Name a, Name b))",
		"[1;2]":                  "Array(Int 1, Int 2)",
		"[[1;2];[3;4]]":          "Array(Array(Int 1, Int 2), Array(Int 3, Int 4))",
		"len(a)":                 "Length(Name a)",
		"read()":                 "Read",
		"(a)":                    "Name a",
		"((a))":                  "Name a",
		"(read())":               "Read",
		"a[1]":                   "Index(Name a, Int 1)",
		"a[1][2]":                "Index(Index(Name a, Int 1), Int 2)",
		"a[b[1]]":                "Index(Name a, Index(Name b, Int 1))",
		"1[2]":                   "Index(Int 1, Int 2)",
		"true[2]":                "Index(Bool 1, Int 2)",
		"f()[0]":                 "Index(Call f, Int 0)",
		"[1;2][0]":               "Index(Array(Int 1, Int 2), Int 0)",
		"len(a)[0]":              "Index(Length(Name a), Int 0)",
		"read()[0]":              "Index(Read, Int 0)",
		"(a+b)[0]":               "Index(Binary +(Name a, Name b), Int 0)",
		"-1":                     "Unary -(Int 1)",
		"!a":                     "Unary !(Name a)",
		"--1":                    "Unary -(Unary -(Int 1))",
		"!-!1":                   "Unary !(Unary -(Unary !(Int 1)))",
		"-a[1]":                  "Unary -(Index(Name a, Int 1))",
		"(-a)[1]":                "Index(Unary -(Name a), Int 1)",
		"-a+b":                   "Binary +(Unary -(Name a), Name b)",
		"a- -b":                  "Binary -(Name a, Unary -(Name b))",
		"a--b":                   "Binary -(Name a, Unary -(Name b))",
		"!a==b":                  "Binary ==(Unary !(Name a), Name b)",
		"!(a==b)":                "Unary !(Binary ==(Name a, Name b))",
		"-a*b":                   "Binary *(Unary -(Name a), Name b)",
		"a*-b":                   "Binary *(Name a, Unary -(Name b))",
		"a<b<c":                  "Binary <(Binary <(Name a, Name b), Name c)",
		"a<b==c":                 "Binary ==(Binary <(Name a, Name b), Name c)",
		"a<(b==c)":               "Binary <(Name a, Binary ==(Name b, Name c))",
		"a-b-c":                  "Binary -(Binary -(Name a, Name b), Name c)",
		"a-(b-c)":                "Binary -(Name a, Binary -(Name b, Name c))",
		"a||b||c":                "Binary ||(Binary ||(Name a, Name b), Name c)",
		"a||b&&c==d+e*f":         "Binary ||(Name a, Binary &&(Name b, Binary ==(Name c, Binary +(Name d, Binary *(Name e, Name f)))))",
		"a*b+c==d&&e||f":         "Binary ||(Binary &&(Binary ==(Binary +(Binary *(Name a, Name b), Name c), Name d), Name e), Name f)",
		"a*(b+(c==(d&&(e||f))))": "Binary *(Name a, Binary +(Name b, Binary ==(Name c, Binary &&(Name d, Binary ||(Name e, Name f)))))",
		"f(a+b,c)[d-1]*2":        "Binary *(Index(Call f(Binary +(Name a, Name b), Name c), Binary -(Name d, Int 1)), Int 2)",
	} {
		shown(t, ahead+"print "+s+";"+behind, "File(Func f(Params, Block(Print("+want+"))))")
	}
}

func TestAnExpressionStandsEverywhere(t *testing.T) {
	for _, s := range []string{"var a=E;", "a=E;", "a[E]=E;", "if E {}", "if E {} else {}", "while E {}", "return E;", "print E;", "f(E);", "f(E,E);", "print [E;E];", "print len(E);", "print (E);", "print f(E,E);", "print a[E][E];", "print -(E);"} {
		for _, e := range []string{"a", "a||b", "a&&b", "a<b", "a+b", "a*b", "-a", "!a", "a[0]", "f(a)", "[a;b]", "(a)", "read()"} {
			s := ahead + strings.ReplaceAll(s, "E", e) + behind
			if _, fault := parse.File(s); fault.Err != api.OK {
				t.Errorf("%q: %v", s, fault)
			}
			check(t, plainGrammar(), s)
		}
	}
}

// P7.1: operators of one level beside each other, of each level in each other, and in brackets.

var operators = strings.Fields("|| && == != < <= > >= + - * / %")

func TestLevelsOfOperators(t *testing.T) {
	level := map[string]int{"||": 1, "&&": 2, "==": 3, "!=": 3, "<": 3, "<=": 3, ">": 3, ">=": 3, "+": 4, "-": 4, "*": 5, "/": 5, "%": 5}
	for _, p := range operators {
		for _, q := range operators {
			want := fmt.Sprintf("Binary %s(Binary %s(Name a, Name b), Name c)", q, p)
			if level[q] > level[p] {
				want = fmt.Sprintf("Binary %s(Name a, Binary %s(Name b, Name c))", p, q)
			}
			left := fmt.Sprintf("Binary %s(Binary %s(Name a, Name b), Name c)", q, p)
			right := fmt.Sprintf("Binary %s(Name a, Binary %s(Name b, Name c))", p, q)
			for s, want := range map[string]string{"a" + p + "b" + q + "c": want, "(a" + p + "b)" + q + "c": left, "a" + p + "(b" + q + "c)": right} {
				shown(t, ahead+"print "+s+";"+behind, "File(Func f(Params, Block(Print("+want+"))))")
			}
		}
	}
}

func TestRowsOfOperators(t *testing.T) {
	g := plainGrammar()
	for _, p := range operators {
		for _, q := range operators {
			for _, r := range operators {
				check(t, g, ahead+"print a"+p+"b"+q+"-c"+r+"d[0];"+behind)
			}
		}
	}
}

func TestRowsOfUnaries(t *testing.T) {
	g := plainGrammar()
	rows := []string{""}
	for from := 0; from < 31; from++ {
		rows = append(rows, rows[from]+"-", rows[from]+"!")
	}
	for _, row := range rows {
		for _, s := range []string{"a", "1", "true", "f(-1)", "[-1;!a]", "len(a)", "read()", "(a)", "a[1]", "a[-1][0]", "a+b", "(a+b)", "a==!b", "a-b", "a--b"} {
			check(t, g, ahead+"print "+row+s+";"+behind)
			check(t, g, ahead+"print a*"+row+s+"||"+row+s+";"+behind)
		}
	}
}

// P7.1: the fault's place, the first token that no file has there, or the text's end.

func TestSyntaxFaults(t *testing.T) {
	for s, at := range map[string]int{
		"x": 0, ";": 0, "}": 0, "(": 0, " 1": 1, "// x\n x": 6,
		"func": 4, "func ": 5, "func 1": 5, "func if": 5, "func (": 5, "func func": 5,
		"func f": 6, "func f{": 6, "func f a": 7, "func f[": 6,
		"func f(": 7, "func f(1": 7, "func f(,": 7, "func f(var": 7, "func f((": 7,
		"func f(a": 8, "func f(a b": 9, "func f(a;": 8, "func f(a=": 8,
		"func f(a,": 9, "func f(a,)": 9, "func f(a,,": 9, "func f(a,1": 9,
		"func f()": 8, "func f();": 8, "func f()(": 8, "func f() x": 9,
		"func f(){": 9, "func f(){;": 9, "func f(){)": 9, "func f(){]": 9, "func f(){1": 9, "func f(){-": 9, "func f(){(": 9, "func f(){[": 9,
		"func f(){else": 9, "func f(){func": 9, "func f(){true": 9, "func f(){len": 9, "func f(){read": 9, "func f(){=": 9, "func f(){,": 9,
		"func f(){}}": 10, "func f(){};": 10, "func f(){} x": 11, "func f(){}{": 10, "func f(){}else": 10,
		"func f(){} // x": -1, "func f(){ // }": 14,
	} {
		if at < 0 {
			check(t, plainGrammar(), s)
			continue
		}
		faulty(t, s, api.ErrSyntax, at)
	}
}

func TestSyntaxFaultsOfStatements(t *testing.T) {
	for s, at := range map[string]int{
		"x": 1, "x;": 1, "x+": 1, "x==1;": 1, "x y": 2, "x.": -1, "x,": 1, "x{": 1, "x}": 1,
		"x=": 2, "x=;": 2, "x=1": 3, "x=1}": 3, "x=1=": 3, "x=1,": 3, "x==": 1, "x=y=1;": 3,
		"x[": 2, "x[]": 2, "x[1": 3, "x[1;": 3, "x[1]": 4, "x[1];": 4, "x[1][": 4, "x[1](": 4, "x[1]+": 4, "x[1]==": 4, "x[1,": 3,
		"f(": 2, "f(,": 2, "f(1": 3, "f(1,": 4, "f(1,)": 4, "f(1;": 3, "f(1 2": 4, "f()": 3, "f()[": 3, "f()=": 3, "f()(": 3, "f()+": 3, "f()}": 3, "f(]": 2, "f(}": 2,
		"var": 3, "var 1": 4, "var if": 4, "var x": 5, "var x;": 5, "var x[": 5, "var x==": 5, "var x(": 5, "var x,": 5, "var x=": 6, "var x=;": 6, "var x=1": 7, "var x=1,": 7, "var x=1}": 7,
		"if": 2, "if {": 3, "if ;": 3, "if a": 4, "if a;": 4, "if a b": 5, "if a=": 4, "if a {": 6, "if a {} else": 12, "if a {} else if": 13, "if a {} else x": 13, "if a {} else {": 14, "if a {} else {} else": 16, "if a {};": 7, "if a {1": 6,
		"while": 5, "while {": 6, "while a": 7, "while a;": 7, "while a {": 9, "while a {} else": 11, "while a {};": 10,
		"return": 6, "return;": 6, "return 1": 8, "return }": 7, "return 1,": 8, "return if": 7,
		"print": 5, "print;": 5, "print 1": 7, "print 1,": 7, "print 1 2": 8, "print print": 6, "print a=": 7, "print {": 6,
		"{": 1, "{;": 1, "{}": 2, "{};": 2, "{]": 1,
	} {
		if at < 0 {
			faulty(t, ahead+s, api.ErrByte, len(ahead)+1)
			continue
		}
		faulty(t, ahead+s, api.ErrSyntax, len(ahead)+at)
	}
}

func TestSyntaxFaultsOfExpressions(t *testing.T) {
	for s, at := range map[string]int{
		"": 0, "+": 0, "*": 0, "||": 0, "==": 0, "=": 0, ",": 0, ")": 0, "]": 0, "}": 0, "var": 0, "if": 0, "else": 0, "func": 0,
		"-": 1, "--": 2, "!": 1, "-;": 1, "-+": 1, "!=": 0, "-)": 1,
		"a b": 2, "a 1": 2, "1 a": 2, "1(": 1, "true(": 4, "a!": 1, "a!b": 1, "a true": 2, "1 1": 2, "a[0](": 4, "(a)(": 3, "f()(": 3, "a func": 2, "a{": 1,
		"a+": 2, "a+;": 2, "a+*": 2, "a||": 3, "a&&&&": 3, "a==": 3, "a<>": 2, "a===": 3, "a+)": 2, "a]": 1, "a)": 1, "a,": 1,
		"(": 1, "()": 1, "(a": 2, "(a;": 2, "(a,": 2, "(a]": 2, "(a)": 3, "((a)": 4, "(a))": 3, "(a b": 3,
		"[": 1, "[]": 1, "[1": 2, "[1]": 2, "[1,": 2, "[1;": 3, "[1;]": 3, "[1;2": 4, "[1;2;": 4, "[1;2)": 4, "[;": 1,
		"a[": 2, "a[]": 2, "a[1": 3, "a[1;": 3, "a[1,": 3, "a[1)": 3,
		"len": 3, "len a": 4, "len[": 3, "len(": 4, "len()": 4, "len(a": 5, "len(a,": 5, "len(a;": 5,
		"read": 4, "read;": 4, "read(": 5, "read(a": 5, "read(1)": 5, "read[": 4,
		"f(": 2, "f(,": 2, "f(a": 3, "f(a,": 4, "f(a,)": 4, "f(a;": 3, "f(a]": 3, "f(a,,": 4,
	} {
		faulty(t, ahead+"print "+s, api.ErrSyntax, len(ahead)+len("print ")+at)
	}
}

// texts tells the texts of all tokens of s.
func texts(t *testing.T, s string) []string {
	tokens, fault := lex.Tokens(s)
	if fault.Err != api.OK {
		t.Fatal(s, fault)
	}
	var all []string
	for _, token := range tokens[:len(tokens)-1] {
		all = append(all, token.Text)
	}
	return all
}

// spelled tells what is written for a terminal.
func spelled(terminal string) string {
	switch terminal {
	case "name":
		return "nm"
	case "integer":
		return "7"
	}
	return terminal
}

func TestEachTokenLeftOutDoubledExchangedPut(t *testing.T) {
	g := plainGrammar()
	for _, s := range samples {
		all := texts(t, s)
		for at := range len(all) + 1 {
			check(t, g, strings.Join(all[:at], " "))
			for _, other := range g.terminals() {
				put := slices.Insert(slices.Clone(all), at, spelled(other))
				check(t, g, strings.Join(put, " "))
			}
			if at == len(all) {
				continue
			}
			check(t, g, strings.Join(slices.Delete(slices.Clone(all), at, at+1), " "))
			check(t, g, strings.Join(slices.Insert(slices.Clone(all), at, all[at]), " "))
			for _, other := range g.terminals() {
				exchanged := slices.Clone(all)
				exchanged[at] = spelled(other)
				check(t, g, strings.Join(exchanged, " "))
			}
			if at > 0 {
				turned := slices.Clone(all)
				turned[at-1], turned[at] = turned[at], turned[at-1]
				check(t, g, strings.Join(turned, " "))
			}
		}
	}
}

// walk goes through all rows of tokens that some file begins with, behind those of the beginning, and holds each next token against the grammar.
func walk(t *testing.T, c *chart, terminals []string, row []string, more int) int {
	text := strings.Join(row, " ")
	count := 1
	_, fault := parse.File(text)
	switch {
	case c.whole() && fault.Err != api.OK, !c.whole() && fault != api.Fault{Err: api.ErrSyntax, At: len(text)}:
		t.Fatalf("%q: %v", text, fault)
	case c.whole():
		check(t, c.g, text)
	}
	if more == 0 {
		return count
	}
	for _, terminal := range terminals {
		if c.step(terminal) {
			count += walk(t, c, terminals, append(row, spelled(terminal)), more-1)
			c.pop()
			continue
		}
		s := text + " " + spelled(terminal)
		if _, fault := parse.File(s); fault != (api.Fault{Err: api.ErrSyntax, At: len(text) + 1}) {
			t.Fatalf("%q: %v", s, fault)
		}
	}
	return count
}

func TestAllSmallRowsOfTokens(t *testing.T) {
	g := plainGrammar()
	for beginning, more := range map[string]int{
		"func": 7, "func f ( ) {": 4, "func f ( ) { a": 4, "func f ( ) { if a { }": 3, "func f ( ) { while": 4,
		"func f ( ) { print": 4, "func f ( ) { print a": 4, "func f ( ) { f (": 4, "func f ( ) { print [ 1 ;": 3, "func f ( ) { print - a [ 1 ]": 3, "func f ( ) { }": 7,
	} {
		c := newChart(g)
		row := strings.Fields(beginning)
		for _, text := range row {
			tokens, _ := lex.Tokens(text)
			if !c.step(terminal(tokens[0])) {
				t.Fatal(beginning)
			}
		}
		if count := walk(t, c, g.terminals(), row, more); count < 50 {
			t.Error(beginning, count)
		}
	}
}

// P7.1: the fault of lex.Tokens is ahead of all.

func TestFaultsOfTokens(t *testing.T) {
	for s, fault := range map[string]api.Fault{
		"&":                                    {Err: api.ErrByte, At: 0},
		"x &":                                  {Err: api.ErrByte, At: 2},
		"func f(){x;} 01":                      {Err: api.ErrToken, At: 13},
		"func f( . 1a":                         {Err: api.ErrByte, At: 8},
		"func f( 1a .":                         {Err: api.ErrToken, At: 8},
		"func f(){print 1;}\x00":               {Err: api.ErrByte, At: 18},
		"func f(){print 1;}\xc3\xa4":           {Err: api.ErrByte, At: 18},
		"func f(){print 9223372036854775808;}": {Err: api.ErrToken, At: 15},
		"func " + strings.Repeat("a", 25) + "(){}":            {Err: api.ErrToken, At: 5},
		ahead + "print " + strings.Repeat("(", 500) + "|":     {Err: api.ErrByte, At: 515},
		ahead + "print " + strings.Repeat("-", 50) + "1;} 00": {Err: api.ErrToken, At: 69},
	} {
		faulty(t, s, fault.Err, fault.At)
	}
	check(t, plainGrammar(), "func "+strings.Repeat("a", 24)+"(){}")
}

// P7.1: 120 levels, and one more.

// opening tells what opens so many levels of a sort, and how it is closed.
func opening(sort string, count int) (left, right string) {
	halves := map[string]string{"(": ")", "{": "}", "[": ";0]", "a[": "]", "f(": ")", "len(": ")", "-": "", "!": ""}
	return strings.Repeat(sort, count), strings.Repeat(halves[sort], count)
}

func TestLevelsOfEachSort(t *testing.T) {
	for _, sort := range []string{"(", "[", "a[", "f(", "len(", "-", "!"} {
		left, right := opening(sort, 119)
		begin := ahead + "print " + left
		if sort == "(" {
			shown(t, begin+"1"+right+";}", "File(Func f(Params, Block(Print(Int 1))))")
		} else {
			faulty(t, begin+"1"+right+";}", api.ErrDeep, 0)
		}
		for _, one := range []string{"(", "[", "a[", "f(", "len(", "-", "!", "read("} {
			place := len(begin) + len(one) - 1
			faulty(t, begin+one, api.ErrDeep, place)
			faulty(t, begin+one+"1", api.ErrDeep, place)
			faulty(t, begin+one+" nothing that a file has", api.ErrDeep, place)
		}
		faulty(t, begin+"1"+right+";", api.ErrSyntax, len(begin+"1"+right+";"))
		left, right = opening(sort, 1000)
		faulty(t, ahead+"print "+left+"1"+right+";}", api.ErrDeep, len(ahead+"print ")+119*len(sort)+len(sort)-1)
	}
	left, right := opening("{", 120)
	faulty(t, "func f()"+left+right, api.ErrDeep, 0)
	faulty(t, "func f()"+left+"{"+right, api.ErrDeep, 128)
	faulty(t, "func f()"+left+"if a {", api.ErrDeep, 128+5)
	faulty(t, "func f()"+left+"while -", api.ErrDeep, 128+6)
	faulty(t, "func f()"+left+"f(", api.ErrDeep, 128+1)
	faulty(t, "func f()"+left+"a[", api.ErrDeep, 128+1)
	left, _ = opening("{", 100000)
	faulty(t, "func f()"+left, api.ErrDeep, 128)
}

func TestLevelsThatAreClosedAreOpenNoMore(t *testing.T) {
	left, right := opening("(", 118)
	for s, deeper := range map[string]bool{
		"(1)+(2)+(3)": false, "f(1)[2][3]": false, "[1;2][3]": false, "len(a)+len(b)+read()": false, "-1+-2+-3": false, "!1==!2": false, "-a+(b)": false, "-1- -2": false, "-1-(2)": false,
		"[1;(2)][3]": true, "f(1)[-2]": true, "f(-1,2)": true, "a[!b]": true, "-a[1]": true, "!(a)": true, "--a": true, "(-a)": true,
	} {
		in := ahead + "print " + left + s + right + ";}"
		_, fault := parse.File(in)
		if deeper != (fault.Err == api.ErrDeep) {
			t.Errorf("%q: %v", s, fault)
		}
		check(t, plainGrammar(), in)
	}
	// A unary's level is open till its operand ends, which brackets behind it do not yet.
	unaries, _ := opening("-", 118)
	for _, s := range []string{"a[1]", "f(1)", "(1)[1]", "a[1][2][3]", "[1;2]", "-1[", "1 {", "1+(2)", "1+----2", "1- -", "a[-", "a[(", "-a[", "-a+(", "(a)+("} {
		check(t, plainGrammar(), ahead+"if "+unaries+s)
	}
	braces, _ := opening("{", 100)
	for _, s := range []string{"{", "{{", "(", "((", "-"} {
		minuses, _ := opening("-", 20)
		in := "func f()" + braces + "if " + minuses + "1 " + s
		check(t, plainGrammar(), in)
		check(t, plainGrammar(), "func f()"+braces+"if "+minuses+s)
	}
	// Behind the operand of 20 unaries 20 blocks may be opened.
	minuses, _ := opening("-", 20)
	whole := "func f()" + braces + "if " + minuses + "1 " + strings.Repeat("{", 20) + strings.Repeat("}", 120)
	faulty(t, whole, api.ErrDeep, 0)
	faulty(t, "func f()"+braces+"if "+minuses+"1 "+strings.Repeat("{", 21), api.ErrDeep, 108+3+20+2+20)
}

func TestSyntaxAheadOfDeepAtOneToken(t *testing.T) {
	left, _ := opening("(", 119)
	begin := ahead + "print " + left
	for _, s := range []string{"{", "1(", "1 {", "a[1", "a(1", "a!", "a {", "1!", "a ["} {
		check(t, plainGrammar(), begin+s)
	}
	faulty(t, begin+"{", api.ErrSyntax, len(begin))
	faulty(t, begin+"1(", api.ErrSyntax, len(begin)+1)
	faulty(t, begin+"1!", api.ErrSyntax, len(begin)+1)
	faulty(t, begin+"len[", api.ErrSyntax, len(begin)+3)
	faulty(t, begin+"read[", api.ErrSyntax, len(begin)+4)
	faulty(t, begin+"a-b", api.ErrSyntax, len(begin)+3)
	faulty(t, begin+"a-", api.ErrSyntax, len(begin)+2)
	faulty(t, begin+"a--", api.ErrDeep, len(begin)+2)
	blocks, _ := opening("{", 120)
	faulty(t, "func f()"+blocks+"(", api.ErrSyntax, 128)
	faulty(t, "func f()"+blocks+"[", api.ErrSyntax, 128)
	faulty(t, "func f()"+blocks+"-", api.ErrSyntax, 128)
	faulty(t, "func f()"+blocks+"func g(", api.ErrSyntax, 128)
	faulty(t, "func f()"+blocks+"var a[", api.ErrSyntax, 128+5)
}

func TestTheFirstOfTwoFaults(t *testing.T) {
	left, right := opening("(", 120)
	faulty(t, ahead+"print "+left+")", api.ErrDeep, len(ahead)+6+119)
	faulty(t, ahead+"print )"+left, api.ErrSyntax, len(ahead)+6)
	faulty(t, ahead+"print "+left[1:]+")"+left, api.ErrSyntax, len(ahead)+6+119)
	faulty(t, ahead+"x; print "+left+"1"+right+";}", api.ErrSyntax, len(ahead)+1)
	faulty(t, ahead+"print "+left+"1"+right+"; x;}", api.ErrDeep, len(ahead)+6+119)
	// What is too deep as a node is told behind all others.
	minuses, _ := opening("-", 100)
	faulty(t, ahead+"print "+minuses+"1; x;}", api.ErrSyntax, len(ahead)+6+100+4)
	faulty(t, ahead+"print "+minuses+"1; print "+left+"1;}", api.ErrDeep, len(ahead)+6+100+9+119)
	faulty(t, ahead+"print "+minuses+"1;", api.ErrSyntax, len(ahead)+6+100+2)
	faulty(t, ahead+"print "+minuses+"1;}", api.ErrDeep, 0)
	faulty(t, "   "+ahead+"print "+minuses+"1;}", api.ErrDeep, 0)
}

// P7.1: nodes 40 deep, and 41.

func TestHowDeepNodesAre(t *testing.T) {
	g := plainGrammar()
	for name, make := range map[string]func(deep int) string{ // deep: how many nodes below the Block of the function
		"unaries": func(deep int) string { return "print " + strings.Repeat("-", deep-2) + "1;" },
		"sums":    func(deep int) string { return "return 1" + strings.Repeat("+1", deep-2) + ";" },
		"ors":     func(deep int) string { return "var a = b" + strings.Repeat("||b", deep-2) + ";" },
		"brackets": func(deep int) string {
			return "print " + strings.Repeat("1+(", deep-2) + "1" + strings.Repeat(")", deep-2) + ";"
		},
		"indexes": func(deep int) string { return "print a" + strings.Repeat("[0]", deep-2) + ";" },
		"within": func(deep int) string {
			return "a[" + strings.Repeat("a[", deep-3) + "1" + strings.Repeat("]", deep-2) + "=1;"
		},
		"calls": func(deep int) string {
			return "f(" + strings.Repeat("f(", deep-3) + "1" + strings.Repeat(")", deep-2) + ";"
		},
		"empties": func(deep int) string { return "f(" + strings.Repeat("f(", deep-2) + strings.Repeat(")", deep-1) + ";" },
		"arrays": func(deep int) string {
			return "print " + strings.Repeat("[1;", deep-2) + "1" + strings.Repeat("]", deep-2) + ";"
		},
		"lengths": func(deep int) string {
			return "print " + strings.Repeat("len(", deep-2) + "a" + strings.Repeat(")", deep-2) + ";"
		},
		"reads":  func(deep int) string { return "print " + strings.Repeat("!", deep-2) + "read();" },
		"blocks": func(deep int) string { return strings.Repeat("{", deep) + strings.Repeat("}", deep) },
		"whiles": func(deep int) string {
			return strings.Repeat("while a {", deep/2) + strings.Repeat("{}", deep%2) + strings.Repeat("}", deep/2)
		},
		"ifs": func(deep int) string {
			return strings.Repeat("{", deep%2) + strings.Repeat("if a {", deep/2) + strings.Repeat("}", (deep+1)/2)
		},
		"elses": func(deep int) string {
			return strings.Repeat("{", deep%2) + strings.Repeat("if a {} else {", deep/2) + strings.Repeat("}", (deep+1)/2)
		},
	} {
		for deep := 5; deep <= 37; deep++ {
			node, fault := parse.File(ahead + make(deep) + behind)
			if fault.Err != api.OK || deepest(node) != deep+3 {
				t.Error(name, deep, fault, deepest(node))
			}
		}
		for _, deep := range []int{36, 37, 38, 39, 60} {
			check(t, g, ahead+make(deep)+behind)
			check(t, g, "func g(a){} "+ahead+"{} "+make(deep)+" a=1;"+behind+" func h(){}")
		}
		faulty(t, ahead+make(38)+behind, api.ErrDeep, 0)
	}
}

func TestBracketsMakeNoNodeDeeper(t *testing.T) {
	left, right := opening("(", 80)
	minuses, _ := opening("-", 35)
	check(t, plainGrammar(), ahead+"print "+minuses+left+"1"+right+";}")
	got, fault := parse.File(ahead + "print " + minuses + left + "1" + right + ";}")
	if fault.Err != api.OK || deepest(got) != 40 {
		t.Error(fault, deepest(got))
	}
	sums := strings.Repeat("(", 35) + "1" + strings.Repeat("+1)", 35)
	check(t, plainGrammar(), ahead+"print "+sums+";}")
	check(t, plainGrammar(), ahead+"print ("+sums+");}")
	faulty(t, ahead+"print -"+sums+";}", api.ErrDeep, 0)
}

// P7.1, P7.2: files by chance.

// chance tells a row of tokens that begins with these, each next one by chance among those that some file has there.
func chance(r *rand.Rand, c *chart, terminals []string, most int) []string {
	var row []string
	for len(row) < most && !(c.whole() && len(row) > 0 && r.Intn(3) == 0) {
		for {
			next := terminals[r.Intn(len(terminals))]
			// What opens comes less often, so that what was opened is closed.
			if strings.Contains("([{-!", next) && r.Intn(4) > 0 || !c.step(next) {
				if next != "(" && next != "{" || r.Intn(8) > 0 || !c.step(next) {
					continue
				}
			}
			row = append(row, spelled(next))
			break
		}
	}
	return row
}

func TestFilesByChance(t *testing.T) {
	g := plainGrammar()
	r := rand.New(rand.NewSource(7))
	whole := 0
	for range 1500 {
		row := chance(r, newChart(g), g.terminals(), 10+r.Intn(120))
		s := strings.Join(row, " ")
		check(t, g, s)
		if _, fault := parse.File(s); fault.Err == api.OK {
			whole++
		}
		at := r.Intn(len(row))
		row[at] = spelled(g.terminals()[r.Intn(len(g.terminals()))])
		check(t, g, strings.Join(row, " "))
	}
	if whole < 50 {
		t.Error(whole)
	}
}

func TestBytesByChance(t *testing.T) {
	g := plainGrammar()
	r := rand.New(rand.NewSource(77))
	for range 20000 {
		bytes := []byte(samples[r.Intn(len(samples))])
		for range 1 + r.Intn(3) {
			at := r.Intn(len(bytes) + 1)
			if r.Intn(2) == 0 {
				bytes = slices.Insert(bytes, at, byte(r.Intn(256)))
			} else if at < len(bytes) {
				bytes = slices.Delete(bytes, at, at+1)
			}
		}
		check(t, g, string(bytes))
	}
}

// P7.2: blanks and comments between tokens make no difference.

func TestBlanksAndComments(t *testing.T) {
	r := rand.New(rand.NewSource(777))
	between := []string{" ", "\n", "\t", "\r", " // a comment ( { \n", " //\n", "\n\n  \n", "\r// a // b\r\n"}
	all := slices.Clone(samples)
	all = append(all, "func f(", "func f(){x;}", "func f(){print (1;}", "func f(){print 1}")
	for _, s := range all {
		want, fault := parse.File(s)
		tokens, _ := lex.Tokens(s)
		for range 50 {
			var text strings.Builder
			place := 0
			for _, token := range tokens {
				for range 1 + r.Intn(2) {
					text.WriteString(between[r.Intn(len(between))])
				}
				if fault.Err != api.OK && token.At == fault.At {
					place = text.Len()
				}
				text.WriteString(token.Text)
			}
			fails(t, text.String(), want, api.Fault{Err: fault.Err, At: place})
		}
	}
	tight, _ := parse.File("func f(a){if a<=b{return-1;}else{print!a;}}")
	loose, _ := parse.File("func f ( a ) { if a <= b { return - 1 ; } else { print ! a ; } } // x")
	if !tree.Same(tight, loose) || len(tight.Kids) != 1 {
		t.Error(show(tight), show(loose))
	}
}

// R1: every call ends, and none panics: texts far too long, and far too deep.

func TestLongTexts(t *testing.T) {
	defer debug.SetMaxStack(debug.SetMaxStack(1 << 20))
	for s, fault := range map[string]api.Fault{
		ahead + "print 1" + strings.Repeat("+1", 300000) + ";}":   {Err: api.ErrDeep},
		ahead + "print 1" + strings.Repeat("+1", 300000) + ";":    {Err: api.ErrSyntax, At: 600017},
		ahead + "print a" + strings.Repeat("[0]", 300000) + ";}":  {Err: api.ErrDeep},
		ahead + "print " + strings.Repeat("-", 300000) + "1;}":    {Err: api.ErrDeep, At: 15 + 119},
		ahead + "print " + strings.Repeat("(", 300000):            {Err: api.ErrDeep, At: 15 + 119},
		ahead + strings.Repeat("{", 300000):                       {Err: api.ErrDeep, At: 9 + 119},
		ahead + strings.Repeat("{}", 300000) + "}":                {},
		ahead + strings.Repeat("x=1;", 100000) + "}":              {},
		ahead + "f(" + strings.Repeat("1,", 100000) + "1);}":      {},
		"func f(" + strings.Repeat("a,", 100000) + "a){}":         {},
		strings.Repeat("func f(){}", 100000):                      {},
		strings.Repeat("func f(){}", 100000) + "}":                {Err: api.ErrSyntax, At: 1000000},
		ahead + strings.Repeat("if -a {} else {}", 50000) + "}":   {},
		ahead + strings.Repeat("if a {} else {if a {", 100) + "}": {Err: api.ErrDeep, At: 9 + 59*20 + 19},
		strings.Repeat(" // nothing\n", 100000):                   {},
	} {
		node, f := parse.File(s)
		if f != fault || f.Err != api.OK && !reflect.DeepEqual(node, api.Node{}) || f.Err == api.OK && !tree.Right(node) {
			t.Errorf("%.40q: %v, asked: %v", s, f, fault)
		}
	}
	node, _ := parse.File(ahead + strings.Repeat("x=1;", 100000) + "}")
	if size := tree.Size(node); size != 4+300000 {
		t.Error(size)
	}
}

// R3, R4: no argument is changed; what is told shares no memory with it, nor between two calls, nor two lists of it.

// memory tells where the texts' bytes and the lists' nodes of a tree are.
func memory(node api.Node, texts, lists map[uintptr]int) {
	for i := range len(node.Text) {
		texts[uintptr(unsafe.Pointer(unsafe.StringData(node.Text)))+uintptr(i)]++
	}
	for i := range cap(node.Kids) {
		lists[uintptr(unsafe.Pointer(&node.Kids[:cap(node.Kids)][i]))]++
	}
	for _, kid := range node.Kids {
		memory(kid, texts, lists)
	}
}

func TestNewMemory(t *testing.T) {
	for _, sample := range samples {
		s := strings.Clone(sample)
		one, fault := parse.File(s)
		two, again := parse.File(s)
		if s != sample || fault != again || !reflect.DeepEqual(one, two) {
			t.Errorf("%q: %v, %v", sample, fault, again)
		}
		texts, lists := map[uintptr]int{}, map[uintptr]int{}
		memory(one, texts, lists)
		memory(two, texts, lists)
		for i := range len(s) {
			texts[uintptr(unsafe.Pointer(unsafe.StringData(s)))+uintptr(i)]++
		}
		for _, all := range []map[uintptr]int{texts, lists} {
			for _, count := range all {
				if count != 1 {
					t.Fatalf("%q: shared", sample)
				}
			}
		}
	}
}

func TestWhatIsToldIsTheCallers(t *testing.T) {
	want, _ := parse.File(samples[2])
	got, _ := parse.File(samples[2])
	got.Kids[0].Text = "changed"
	got.Kids[0].Kids[1].Kids[0].Kids[0] = api.Node{}
	got.Kids = append(got.Kids, api.Node{})
	if again, _ := parse.File(samples[2]); !reflect.DeepEqual(again, want) {
		t.Error(show(again))
	}
}
