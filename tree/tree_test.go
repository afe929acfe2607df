package tree_test

import (
	"fmt"
	"math"
	"math/rand"
	"reflect"
	"runtime/debug"
	"slices"
	"strings"
	"testing"
	"unsafe"

	"clerestory/api"
	"clerestory/tree"
)

// What the chapter's Words say, written down once more, as words.

var kindNames = map[api.NodeKind]string{
	api.File: "File", api.Func: "Func", api.Params: "Params", api.Param: "Param", api.Block: "Block",
	api.Var: "Var", api.Set: "Set", api.If: "If", api.While: "While", api.Return: "Return", api.Print: "Print", api.Do: "Do",
	api.Int: "Int", api.Bool: "Bool", api.Name: "Name", api.Unary: "Unary", api.Binary: "Binary", api.Call: "Call",
	api.Index: "Index", api.Array: "Array", api.Length: "Length", api.Read: "Read",
}

const (
	expressions = " Int Bool Name Unary Binary Call Index Array Length Read "
	statements  = " Var Set If While Return Print Do Block "
	chapter     = `
File: Func ..
Func: Params, Block
Params: Param ..
Block: statement ..
Var: expression
Return: expression
Print: expression
Unary: expression
Length: expression
Set: place, expression
If: expression, Block, Block
While: expression, Block
Do: Call
Binary: expression, expression
Index: expression, expression
Array: expression, expression
Call: expression ..
Param:
Int:
Bool:
Name:
Read:
`
)

// plainRows is the chapter's table: of each Kind what its Kids are, and whether there may be any number.
func plainRows() (rows map[string][]string, endless map[string]bool) {
	rows, endless = map[string][]string{}, map[string]bool{}
	for line := range strings.SplitSeq(strings.TrimSpace(chapter), "\n") {
		kind, kids, _ := strings.Cut(line, ":")
		kids, endless[kind] = strings.CutSuffix(kids, " ..")
		rows[kind] = nil
		for kid := range strings.SplitSeq(kids, ",") {
			if kid = strings.TrimSpace(kid); kid != "" {
				rows[kind] = append(rows[kind], kid)
			}
		}
	}
	return rows, endless
}

var tableRows, tableEndless = plainRows()

func isOneOf(word, row string) bool { return word != "" && strings.Contains(row, " "+word+" ") }

func plainFits(parent, kid api.NodeKind, at int) bool {
	row, k := tableRows[kindNames[parent]], kindNames[kid]
	if tableEndless[kindNames[parent]] && at > 0 {
		at = 0
	}
	if k == "" || at < 0 || at >= len(row) {
		return false
	}
	switch row[at] {
	case "expression":
		return isOneOf(k, expressions)
	case "statement":
		return isOneOf(k, statements)
	case "place":
		return isOneOf(k, " Name Index ")
	}
	return row[at] == k
}

func plainDeep(n api.Node) int {
	deepest := 0
	for _, kid := range n.Kids {
		deepest = max(deepest, plainDeep(kid))
	}
	return deepest + 1
}

var plainWords = strings.Fields("func var if else while return print true false len read")

func plainName(s string) bool {
	for i, r := range s {
		letter := r >= 'a' && r <= 'z' || r >= 'A' && r <= 'Z' || r == '_'
		if !letter && (i == 0 || r < '0' || r > '9') {
			return false
		}
	}
	return s != "" && len(s) <= 24 && !slices.Contains(plainWords, s)
}

func plainText(n api.Node) bool {
	switch kind := kindNames[n.Kind]; {
	case isOneOf(kind, " Func Param Var Name Call "):
		return plainName(n.Text)
	case kind == "Unary":
		return slices.Contains(strings.Fields("- !"), n.Text)
	case kind == "Binary":
		return slices.Contains(strings.Fields("|| && == != < <= > >= + - * / %"), n.Text)
	}
	return n.Text == ""
}

func plainNum(n api.Node) bool {
	return n.Num == 0 || n.Kind == api.Int && n.Num > 0 || n.Kind == api.Bool && n.Num == 1
}

// plainRight is a word-for-word reading of what a right node is.
func plainRight(n api.Node) bool {
	kind := kindNames[n.Kind]
	if kind == "" || !plainText(n) || !plainNum(n) || plainDeep(n) > 40 {
		return false
	}
	if !tableEndless[kind] && len(n.Kids) != len(tableRows[kind]) {
		return false
	}
	for at, kid := range n.Kids {
		if !plainFits(n.Kind, kid.Kind, at) || !plainRight(kid) {
			return false
		}
	}
	return kind != "Set" || n.Kids[0].Kind == api.Name || n.Kids[0].Kids[0].Kind == api.Name
}

func plainGet(n api.Node, path []int) (api.Node, bool) {
	if len(path) == 0 {
		return n, true
	}
	if path[0] < 0 || path[0] >= len(n.Kids) {
		return api.Node{}, false
	}
	return plainGet(n.Kids[path[0]], path[1:])
}

// plainWith tells n with kid in the place that the path leads to.
func plainWith(n, kid api.Node, path []int) api.Node {
	if len(path) == 0 {
		return kid
	}
	var kids []api.Node
	for at, k := range n.Kids {
		if at == path[0] {
			k = plainWith(k, kid, path[1:])
		}
		kids = append(kids, k)
	}
	n.Kids = kids
	return n
}

func plainPut(n, kid api.Node, path []int) (api.Node, api.Errno) {
	if _, ok := plainGet(n, path); !ok {
		return api.Node{}, api.ErrNone
	}
	if n = plainWith(n, kid, path); !plainRight(n) {
		return api.Node{}, api.ErrShape
	}
	return n, api.OK
}

// text tells all of n as words: no Kids and none are one in it.
func text(n api.Node) string {
	var kids []string
	for _, kid := range n.Kids {
		kids = append(kids, text(kid))
	}
	return fmt.Sprintf("%d %q %d [%s]", n.Kind, n.Text, n.Num, strings.Join(kids, ", "))
}

func plainSize(n api.Node) int {
	size := 1
	for _, kid := range n.Kids {
		size += plainSize(kid)
	}
	return size
}

func plainNames(nodes ...api.Node) []string {
	found := map[string]bool{}
	for _, n := range nodes {
		if isOneOf(kindNames[n.Kind], " Func Param Var Name Call ") {
			found[n.Text] = true
		}
		for _, name := range plainNames(n.Kids...) {
			found[name] = true
		}
	}
	var names []string
	for name := range found {
		names = append(names, name)
	}
	slices.SortFunc(names, func(a, b string) int { return slices.Compare([]byte(a), []byte(b)) })
	return names
}

// Short ways to say trees.

func of(k api.NodeKind, kids ...api.Node) api.Node { return api.Node{Kind: k, Kids: kids} }
func num(n int64) api.Node                         { return api.Node{Kind: api.Int, Num: n} }
func truth(n int64) api.Node                       { return api.Node{Kind: api.Bool, Num: n} }
func name(s string) api.Node                       { return api.Node{Kind: api.Name, Text: s} }

func called(k api.NodeKind, s string, kids ...api.Node) api.Node {
	return api.Node{Kind: k, Text: s, Kids: kids}
}

// sample tells a right node of the Kind, with as many Kids as it must have.
func sample(k api.NodeKind) api.Node {
	switch k {
	case api.Func:
		return called(k, "f", of(api.Params), of(api.Block))
	case api.Param, api.Name, api.Call:
		return called(k, "a")
	case api.Var:
		return called(k, "v", num(1))
	case api.Set:
		return of(k, name("a"), num(1))
	case api.If:
		return of(k, truth(1), of(api.Block), of(api.Block))
	case api.While:
		return of(k, truth(0), of(api.Block))
	case api.Return, api.Print, api.Length:
		return of(k, num(2))
	case api.Do:
		return of(k, called(api.Call, "g", num(1)))
	case api.Unary:
		return called(k, "-", num(3))
	case api.Binary:
		return called(k, "+", num(1), name("b"))
	case api.Index:
		return of(k, name("a"), num(0))
	case api.Array:
		return of(k, num(4), of(api.Read))
	}
	return of(k)
}

func samples() []api.Node {
	var l []api.Node
	for k := range 256 {
		if kindNames[api.NodeKind(k)] != "" {
			l = append(l, sample(api.NodeKind(k)))
		}
	}
	return l
}

// program tells a right tree in which each Kind is.
func program() api.Node {
	index := of(api.Index, name("row"), called(api.Binary, "%", num(7), of(api.Read)))
	return of(api.File,
		called(api.Func, "main", of(api.Params), of(api.Block,
			called(api.Var, "row", of(api.Array, num(10), num(0))),
			of(api.Set, index, called(api.Call, "max", name("row"), of(api.Length, name("row")))),
			of(api.Do, called(api.Call, "main")),
			of(api.Block, of(api.Print, index), of(api.Block)),
		)),
		called(api.Func, "max", of(api.Params, called(api.Param, "a"), called(api.Param, "b")), of(api.Block,
			of(api.If, called(api.Binary, ">=", name("a"), name("b")), of(api.Block, of(api.Return, name("a"))), of(api.Block)),
			of(api.While, truth(1), of(api.Block, of(api.Set, name("b"), called(api.Unary, "!", truth(0))))),
			of(api.Return, name("b")),
		)),
	)
}

// chain tells an Int within Lengths, so many nodes deep.
func chain(deep int) api.Node {
	n := num(1)
	for range deep - 1 {
		n = of(api.Length, n)
	}
	return n
}

// paths tells all paths in n, each ahead of those below it.
func paths(n api.Node) [][]int {
	l := [][]int{nil}
	for at, kid := range n.Kids {
		for _, path := range paths(kid) {
			l = append(l, append([]int{at}, path...))
		}
	}
	return l
}

func checkRight(t *testing.T, n api.Node, want bool) {
	t.Helper()
	if tree.Right(n) != want {
		t.Errorf("Right(%.300s) = %v", text(n), !want)
	}
}

func checkGet(t *testing.T, n api.Node, path []int, want api.Node) {
	t.Helper()
	if got, ok := tree.Get(n, path...); !ok || text(got) != text(want) {
		t.Errorf("Get(%.300s, %v) = %.300s, %v, want %.300s", text(n), path, text(got), ok, text(want))
	}
}

func checkNoGet(t *testing.T, n api.Node, path ...int) {
	t.Helper()
	if got, ok := tree.Get(n, path...); ok || !reflect.DeepEqual(got, api.Node{}) {
		t.Errorf("Get(%.300s, %v) = %.300s, %v, want nothing", text(n), path, text(got), ok)
	}
}

func checkPut(t *testing.T, n, kid api.Node, path []int, want api.Node) {
	t.Helper()
	if got, err := tree.Put(n, kid, path...); err != api.OK || text(got) != text(want) {
		t.Errorf("Put(%.300s, %.300s, %v) = %.300s, %d, want %.300s", text(n), text(kid), path, text(got), err, text(want))
	}
}

func checkNoPut(t *testing.T, want api.Errno, n, kid api.Node, path ...int) {
	t.Helper()
	if got, err := tree.Put(n, kid, path...); err != want || !reflect.DeepEqual(got, api.Node{}) {
		t.Errorf("Put(%.300s, %.300s, %v) = %.300s, %d, want the error %d alone", text(n), text(kid), path, text(got), err, want)
	}
}

func TestExamples(t *testing.T) {
	b := of(api.Block, of(api.Return, num(1)))
	checkRight(t, b, true)
	if tree.Size(b) != 3 {
		t.Errorf("Size %d", tree.Size(b))
	}
	checkGet(t, b, []int{0, 0}, num(1))
	checkPut(t, b, of(api.Block), []int{0}, of(api.Block, of(api.Block)))
	checkNoPut(t, api.ErrShape, b, num(1), 0)
	checkNoPut(t, api.ErrNone, b, num(1), 1)
	if l := tree.Names(called(api.Call, "f", name("a"), name("a"))); !slices.Equal(l, []string{"a", "f"}) {
		t.Errorf("Names %q", l)
	}
}

// P6.1: List, Fits.

func TestLists(t *testing.T) {
	for k := range 256 {
		kind := api.NodeKind(k)
		if want := kind == api.File || kind == api.Params || kind == api.Block; tree.List(kind) != want {
			t.Errorf("List(%d) = %v", k, !want)
		}
	}
}

func TestFitsOfAllKindsAtAllPlaces(t *testing.T) {
	places := []int{math.MinInt, -3, -2, -1, 0, 1, 2, 3, 4, 5, 200, 201, 1 << 31, math.MaxInt}
	for parent := range 256 {
		for kid := range 256 {
			for _, at := range places {
				p, k := api.NodeKind(parent), api.NodeKind(kid)
				if got, want := tree.Fits(p, k, at), plainFits(p, k, at); got != want {
					t.Errorf("Fits(%d, %d, %d) = %v", parent, kid, at, got)
				}
			}
		}
	}
}

func TestFitsByWords(t *testing.T) {
	for i, c := range []struct {
		parent, kid api.NodeKind
		at          int
		want        bool
	}{
		{api.Set, api.Index, 0, true}, {api.Set, api.Name, 0, true}, {api.Set, api.Int, 0, false}, {api.Set, api.Index, 1, true}, {api.Set, api.Name, 2, false},
		{api.File, api.Func, 0, true}, {api.File, api.Func, 99, true}, {api.File, api.Func, -1, false}, {api.File, api.Block, 0, false},
		{api.Call, api.Call, 1 << 20, true}, {api.Call, api.Block, 0, false}, {api.Call, api.Int, -1, false},
		{api.Block, api.Block, 3, true}, {api.Block, api.Func, 0, false}, {api.Block, api.Call, 0, false}, {api.Do, api.Call, 0, true}, {api.Do, api.Call, 1, false},
		{api.If, api.Block, 2, true}, {api.If, api.Block, 3, false}, {api.If, api.Block, 0, false}, {api.If, api.If, 2, false},
		{api.Func, api.Params, 0, true}, {api.Func, api.Block, 1, true}, {api.Func, api.Params, 1, false}, {api.Params, api.Name, 0, false},
		{api.Int, api.Int, 0, false}, {api.Read, 0, 0, false}, {0, 0, 0, false}, {0, api.Int, 0, false},
	} {
		if tree.Fits(c.parent, c.kid, c.at) != c.want {
			t.Errorf("%d: Fits(%d, %d, %d) = %v", i, c.parent, c.kid, c.at, !c.want)
		}
	}
}

// P6.1: Right.

func TestRightSamplesAndProgram(t *testing.T) {
	for _, n := range append(samples(), program()) {
		checkRight(t, n, true)
	}
	if l := samples(); len(l) != 22 {
		t.Errorf("%d Kinds", len(l))
	}
}

func TestNumbersThatAreNoKind(t *testing.T) {
	for k := range 256 {
		kind := api.NodeKind(k)
		checkRight(t, sample(kind), kindNames[kind] != "")
		checkRight(t, of(api.Print, sample(kind)), isOneOf(kindNames[kind], expressions))
		checkRight(t, of(api.Block, sample(kind)), isOneOf(kindNames[kind], statements))
	}
}

func TestRightOfAllRowsOfKids(t *testing.T) {
	kids := append(samples(), of(0), of(200), of(201), of(202), of(203), name("1"), num(-1))
	rows := [][]api.Node{nil, {}}
	for _, a := range kids {
		rows = append(rows, []api.Node{a})
		for _, b := range kids {
			rows = append(rows, []api.Node{a, b})
			for _, c := range kids {
				rows = append(rows, []api.Node{a, b, c})
			}
			rows = append(rows, []api.Node{a, b, b, b}, []api.Node{a, a, b, b, b})
		}
	}
	count := map[bool]int{}
	for _, n := range append(samples(), of(0), of(200), of(203), of(255)) {
		for _, row := range rows {
			n.Kids = row
			want := plainRight(n)
			checkRight(t, n, want)
			count[want]++
		}
	}
	if count[true] < 2000 || count[false] < 2000 {
		t.Errorf("too few of a sort: %v", count)
	}
}

func TestPlacesOfSets(t *testing.T) {
	for _, n := range samples() {
		checkRight(t, of(api.Set, n, num(1)), n.Kind == api.Name || n.Kind == api.Index)
		first := of(api.Index, n, num(1))
		checkRight(t, of(api.Set, first, num(1)), n.Kind == api.Name)
		checkRight(t, of(api.Print, first), isOneOf(kindNames[n.Kind], expressions))
		checkRight(t, of(api.Set, name("a"), first), isOneOf(kindNames[n.Kind], expressions))
	}
	checkRight(t, of(api.Set, of(api.Index, of(api.Index, name("a"), num(1)), num(1)), num(1)), false)
	checkRight(t, of(api.Set, of(api.Index, name("a"), of(api.Index, num(1), num(1))), num(1)), true)
	for _, kids := range [][]api.Node{nil, {name("a")}, {num(1)}, {name("a"), num(1), num(1)}, {name("if"), num(1)}} {
		checkRight(t, of(api.Set, of(api.Index, kids...), num(1)), false)
	}
	checkRight(t, of(api.Set), false)
	checkRight(t, of(api.Set, name("a")), false)
	checkRight(t, of(api.Set, name("a"), num(1), num(1)), false)
}

func TestTextsOfAllKinds(t *testing.T) {
	words := slices.Concat(plainWords, strings.Fields("( ) { } [ ] , ; = == != < <= > >= + - * / % ! && || & | => // a A _ a1 _1 1 0 1a a-b é a. -a -- !! 200"),
		[]string{"", " ", " a", "a ", "a\n", "\x00", "- ", strings.Repeat("n", 24), strings.Repeat("n", 25), strings.Repeat("n", 1<<16)})
	for _, n := range samples() {
		for _, w := range words {
			n.Text = w
			checkRight(t, n, plainText(n))
			checkRight(t, of(api.Print, n), plainText(n) && isOneOf(kindNames[n.Kind], expressions))
		}
	}
}

func TestNumsOfAllKinds(t *testing.T) {
	for _, n := range samples() {
		for _, v := range []int64{math.MinInt64, -1 << 32, -2, -1, 0, 1, 2, 3, 256, 1 << 31, 1 << 32, math.MaxInt64 - 1, math.MaxInt64} {
			n.Num = v
			want := v == 0 || n.Kind == api.Int && v > 0 || n.Kind == api.Bool && v == 1
			checkRight(t, n, want)
			checkRight(t, of(api.Block, n), want && isOneOf(kindNames[n.Kind], statements))
		}
	}
}

func TestEachSingleChangeOfAProgram(t *testing.T) {
	n := program()
	count := map[bool]int{}
	for _, path := range paths(n) {
		at, _ := plainGet(n, path)
		var changed []api.Node
		for k := range 32 {
			c := at
			c.Kind = api.NodeKind(k)
			changed = append(changed, c)
		}
		for _, w := range []string{"", "x", "-", "!", "+", "=", "if", "9"} {
			c := at
			c.Text = w
			changed = append(changed, c)
		}
		for _, v := range []int64{-1, 0, 1, 2} {
			c := at
			c.Num = v
			changed = append(changed, c)
		}
		for _, kid := range samples() {
			c := at
			c.Kids = append(slices.Clone(at.Kids), kid)
			changed = append(changed, c, kid)
		}
		for i := range at.Kids {
			c := at
			c.Kids = slices.Delete(slices.Clone(at.Kids), i, i+1)
			changed = append(changed, c)
		}
		for _, c := range changed {
			whole := plainWith(n, c, path)
			want := plainRight(whole)
			checkRight(t, whole, want)
			if want {
				checkPut(t, n, c, path, whole)
			} else {
				checkNoPut(t, api.ErrShape, n, c, path...)
			}
			count[want]++
		}
	}
	if count[true] < 100 || count[false] < 1000 {
		t.Errorf("too few of a sort: %v", count)
	}
}

func TestHowDeepTreesAre(t *testing.T) {
	for deep := 1; deep <= 45; deep++ {
		n := chain(deep)
		checkRight(t, n, deep <= 40)
		checkRight(t, called(api.Call, "f", num(1), num(1), n, num(1)), deep <= 39)
		checkRight(t, called(api.Binary, "-", n, num(2)), deep <= 39)
		checkRight(t, called(api.Binary, "-", num(2), n), deep <= 39)
		b := of(api.Block)
		for range deep - 1 {
			b = of(api.Block, of(api.Block), b, of(api.Block))
		}
		checkRight(t, b, deep <= 40)
		whole := of(api.File, sample(api.Func), called(api.Func, "g", of(api.Params), of(api.Block, b)))
		checkRight(t, whole, deep <= 37)
	}
}

func TestTreesWithoutEnd(t *testing.T) {
	for _, size := range []int{1, 2, 5} {
		for _, k := range []api.NodeKind{api.Block, api.Length, api.Call, api.Array} {
			kids := make([]api.Node, size)
			n := api.Node{Kind: k, Text: sample(k).Text, Kids: kids}
			for i := range kids {
				kids[i] = n
			}
			if tree.Right(n) {
				t.Errorf("a node of the Kind %d in itself is right", k)
			}
			want := api.ErrShape
			if size == 1 && (k == api.Length || k == api.Call) {
				want = api.OK // what is put ends it
			}
			if _, err := tree.Put(n, num(1), 0, 0, 0); err != want {
				t.Errorf("Put into it: %d", err)
			}
			if _, err := tree.Put(n, num(1), 0, 0, size); err != api.ErrNone {
				t.Errorf("Put into it, past its Kids: %d", err)
			}
			if tree.Same(n, chain(20)) || tree.Same(chain(20), n) {
				t.Error("it is the same as one that ends")
			}
			checkNoGet(t, n, 0, size-1, 0, -1)
		}
	}
}

// P6.2: Get.

func TestGetAtAllPaths(t *testing.T) {
	n := program()
	for _, path := range paths(n) {
		want, _ := plainGet(n, path)
		checkGet(t, n, path, want)
		for _, past := range []int{math.MinInt, -1, len(want.Kids), len(want.Kids) + 1, math.MaxInt} {
			checkNoGet(t, n, append(slices.Clone(path), past)...)
			checkNoGet(t, n, append(slices.Clone(path), past, 0)...)
		}
	}
}

func TestGetOfWhatIsNotRight(t *testing.T) {
	n := api.Node{Kind: 200, Text: "if", Num: -5, Kids: []api.Node{{}, {Kind: 99, Kids: []api.Node{{Text: "\x00"}, num(-1)}}}}
	for _, path := range paths(n) {
		want, _ := plainGet(n, path)
		checkGet(t, n, path, want)
	}
	checkGet(t, api.Node{}, nil, api.Node{})
	checkGet(t, api.Node{}, []int{}, api.Node{})
	checkNoGet(t, api.Node{}, 0)
	checkNoGet(t, api.Node{}, -1)
}

// P6.2: Put.

func TestPutOfTheWhole(t *testing.T) {
	for _, kid := range append(samples(), program(), of(0), num(-1), chain(40), chain(41)) {
		for _, n := range []api.Node{{}, program(), num(-1), of(0, of(0))} {
			if plainRight(kid) {
				checkPut(t, n, kid, nil, kid)
				checkPut(t, n, kid, []int{}, kid)
			} else {
				checkNoPut(t, api.ErrShape, n, kid)
			}
		}
	}
}

func TestPutPastKids(t *testing.T) {
	n := program()
	for _, path := range paths(n) {
		at, _ := plainGet(n, path)
		for _, past := range []int{math.MinInt, -1, len(at.Kids), len(at.Kids) + 1, math.MaxInt} {
			for _, kid := range []api.Node{num(1), sample(api.Func), of(0), chain(41)} {
				checkNoPut(t, api.ErrNone, n, kid, append(slices.Clone(path), past)...)
				checkNoPut(t, api.ErrNone, n, kid, append(slices.Clone(path), past, 0, 0)...)
			}
		}
	}
	checkNoPut(t, api.ErrNone, of(0), of(0), 0)
	checkNoPut(t, api.ErrNone, num(-1), num(-1), -1)
	checkNoPut(t, api.ErrNone, chain(60), num(1), make([]int, 60)...)
}

func TestPutIntoWhatIsNotRight(t *testing.T) {
	b := of(api.Block, of(api.Print, num(-1)), of(api.Print, num(1)))
	checkNoPut(t, api.ErrShape, b, num(2), 1, 0)
	checkPut(t, b, num(2), []int{0, 0}, of(api.Block, of(api.Print, num(2)), of(api.Print, num(1))))
	checkPut(t, b, of(api.Block), []int{0}, of(api.Block, of(api.Block), of(api.Print, num(1))))
	checkNoPut(t, api.ErrShape, of(0, num(1)), num(2), 0)
}

func TestPutAndHowDeepTreesAre(t *testing.T) {
	for deep := 1; deep <= 42; deep++ {
		for at := range 40 {
			n, path := chain(40), make([]int, at)
			if deep+at <= 40 {
				checkPut(t, n, chain(deep), path, chain(deep+at))
			} else {
				checkNoPut(t, api.ErrShape, n, chain(deep), path...)
			}
		}
	}
	checkPut(t, chain(60), chain(2), make([]int, 38), chain(40))
	checkPut(t, chain(60), chain(1), make([]int, 39), chain(40))
	checkNoPut(t, api.ErrShape, chain(60), chain(1), make([]int, 40)...)
	checkNoPut(t, api.ErrShape, chain(60), chain(1), make([]int, 59)...)
}

func TestPutOfASetsPlace(t *testing.T) {
	s := of(api.Block, of(api.Set, of(api.Index, name("a"), num(1)), num(2)))
	checkPut(t, s, name("b"), []int{0, 0, 0}, of(api.Block, of(api.Set, of(api.Index, name("b"), num(1)), num(2))))
	checkPut(t, s, name("b"), []int{0, 0}, of(api.Block, of(api.Set, name("b"), num(2))))
	checkNoPut(t, api.ErrShape, s, num(3), 0, 0, 0)
	checkNoPut(t, api.ErrShape, s, of(api.Index, name("a"), num(1)), 0, 0, 0)
	checkNoPut(t, api.ErrShape, s, of(api.Index, called(api.Call, "f"), num(1)), 0, 0)
}

// P6.3: Same, Size, Names.

func TestSameOfAllPairs(t *testing.T) {
	l := append(samples(), of(0), of(200), program(), chain(40), chain(41), num(1), num(-1), truth(1), name("if"), name("A"),
		of(api.Block, of(api.Block)), of(api.Block, of(api.Block), of(api.Block)), of(api.Block, of(api.Block, of(api.Block))),
		called(api.Call, "f", num(1), num(2)), called(api.Call, "f", num(2), num(1)), called(api.Call, "f", num(1)), called(api.Call, "g", num(1)))
	for _, a := range l {
		for _, b := range l {
			if want := text(a) == text(b); tree.Same(a, b) != want {
				t.Errorf("Same(%.200s, %.200s) = %v", text(a), text(b), !want)
			}
		}
	}
}

func TestSameButForOneThing(t *testing.T) {
	n := program()
	if !tree.Same(n, program()) {
		t.Error("two of one are not the same")
	}
	for _, path := range paths(n) {
		at, _ := plainGet(n, path)
		kind, word, value, more := at, at, at, at
		kind.Kind++
		word.Text += "x"
		value.Num++
		more.Kids = append(slices.Clone(at.Kids), at)
		for i, c := range []api.Node{kind, word, value, more} {
			changed := plainWith(n, c, path)
			if tree.Same(n, changed) || tree.Same(changed, n) {
				t.Errorf("the same, but changed (%d) at %v", i, path)
			}
			if !tree.Same(changed, plainWith(n, c, path)) {
				t.Errorf("changed alike (%d) at %v, not the same", i, path)
			}
		}
	}
}

func TestNoKidsAndNoneAreOne(t *testing.T) {
	without, empty := of(api.Block), api.Node{Kind: api.Block, Kids: make([]api.Node, 0, 4)}
	checkRight(t, empty, true)
	if !tree.Same(without, empty) || !tree.Same(empty, without) || !tree.Same(of(api.Block, without, empty), of(api.Block, empty, without)) {
		t.Error("not the same")
	}
	leaf := api.Node{Kind: api.Int, Num: 1, Kids: []api.Node{}}
	checkRight(t, leaf, true)
	checkGet(t, empty, nil, without)
	checkPut(t, of(api.Block, empty), leaf, nil, num(1))
	if tree.Size(empty) != 1 || tree.Size(of(api.Block, empty, without)) != 3 {
		t.Error("Size")
	}
}

func TestSizes(t *testing.T) {
	for _, n := range append(samples(), of(0), program(), chain(39), chain(40), chain(41), chain(42), chain(80), chain(81), chain(82)) {
		if got, want := tree.Size(n), plainSize(n); got != want {
			t.Errorf("Size(%.300s) = %d, want %d", text(n), got, want)
		}
	}
}

func TestNamesOfAllKinds(t *testing.T) {
	for k := range 256 {
		n := called(api.NodeKind(k), "x")
		if got, want := tree.Names(n), plainNames(n); !slices.Equal(got, want) {
			t.Errorf("Names of the Kind %d = %q, want %q", k, got, want)
		}
	}
}

func TestNamesRiseEachOnce(t *testing.T) {
	for _, c := range []struct {
		nodes []api.Node
		want  string
	}{
		{nil, ""}, {[]api.Node{num(1), of(api.Read)}, ""}, {[]api.Node{program()}, "a b main max row"}, {[]api.Node{program(), program()}, "a b main max row"},
		{[]api.Node{name("b"), name("a"), name("b")}, "a b"}, {[]api.Node{called(api.Func, "z", of(api.Params, called(api.Param, "Z")), of(api.Block)), called(api.Var, "_", called(api.Unary, "-", name("z")))}, "Z _ z"},
		{[]api.Node{name("a1"), name("a_"), name("aB"), name("a"), name("ab"), name("A"), name("a10"), name("a9")}, "A a a1 a10 a9 aB a_ ab"},
		{[]api.Node{called(api.Call, "c", called(api.Call, "b", called(api.Call, "a"), called(api.Call, "c")), name("b"))}, "a b c"},
	} {
		if got := tree.Names(c.nodes...); !slices.Equal(got, strings.Fields(c.want)) {
			t.Errorf("Names(%.300s) = %q, want %q", fmt.Sprint(c.nodes), got, c.want)
		}
	}
	wrong := []api.Node{name("if"), name(""), called(0, "no"), called(api.Param, "\xff"), called(api.Func, "é"), called(api.Block, "no"), called(api.Binary, "+")}
	if got := tree.Names(wrong...); !slices.Equal(got, []string{"", "if", "é", "\xff"}) {
		t.Errorf("Names of what is not right: %q", got)
	}
}

// All of it, at trees that are made by chance (of one seed).

// grow tells a node that fits there, most often right.
func grow(r *rand.Rand, parent api.NodeKind, at, deep int) api.Node {
	var fits []api.NodeKind
	for k := range 30 {
		if plainFits(parent, api.NodeKind(k), at) {
			fits = append(fits, api.NodeKind(k))
		}
	}
	n := sample(fits[r.Intn(len(fits))])
	if isOneOf(kindNames[n.Kind], " Func Param Var Name Call ") {
		n.Text = string(rune('a' + r.Intn(6)))
	}
	if deep > 6 {
		return n
	}
	count := len(tableRows[kindNames[n.Kind]])
	if tableEndless[kindNames[n.Kind]] {
		count = r.Intn(4)
	}
	n.Kids = nil
	for i := range count {
		n.Kids = append(n.Kids, grow(r, n.Kind, i, deep+1))
	}
	return n
}

func TestTreesByChance(t *testing.T) {
	r := rand.New(rand.NewSource(6))
	count := map[api.Errno]int{}
	for range 3000 {
		n := of(api.File, grow(r, api.File, 0, 0), grow(r, api.File, 1, 0))
		checkRight(t, n, plainRight(n))
		if got, want := tree.Names(n, n), plainNames(n); !slices.Equal(got, want) {
			t.Fatalf("Names(%s) = %q", text(n), got)
		}
		all := paths(n)
		if tree.Size(n) != len(all) {
			t.Fatalf("Size(%s) = %d", text(n), tree.Size(n))
		}
		path := all[r.Intn(len(all))]
		if r.Intn(4) == 0 {
			path = append(slices.Clone(path), r.Intn(4)-1)
		}
		kid := grow(r, []api.NodeKind{api.Block, api.Print, api.File, api.Params}[r.Intn(4)], 0, 3)
		want, err := plainPut(n, kid, path)
		count[err]++
		if err == api.OK {
			checkPut(t, n, kid, path, want)
		} else {
			checkNoPut(t, err, n, kid, path...)
		}
	}
	if count[api.OK] < 100 || count[api.ErrNone] < 100 || count[api.ErrShape] < 100 {
		t.Errorf("too few of a sort: %v", count)
	}
}

// P6.4: what follows.

func TestWhatIsPutIsGotAndAllElseStays(t *testing.T) {
	n := program()
	for _, path := range paths(n) {
		for _, kid := range append(samples(), called(api.Call, "h", name("q")), of(api.Block, of(api.Block))) {
			got, err := tree.Put(n, kid, path...)
			if err != api.OK {
				continue
			}
			checkGet(t, got, path, kid)
			for _, other := range paths(n) {
				if len(other) >= len(path) && slices.Equal(other[:len(path)], path) {
					continue
				}
				was, _ := tree.Get(n, other...)
				is, ok := tree.Get(got, other...)
				if ahead := len(other) < len(path) && slices.Equal(path[:len(other)], other); ahead {
					was.Kids, is.Kids = nil, nil
				}
				if !ok || !tree.Same(was, is) {
					t.Fatalf("Put at %v changed what is at %v", path, other)
				}
			}
		}
	}
}

func TestPutOfWhatIsThere(t *testing.T) {
	n := program()
	for _, path := range paths(n) {
		kid, _ := tree.Get(n, path...)
		checkPut(t, n, kid, path, n)
	}
}

func TestSizeIsOneMoreThanTheKids(t *testing.T) {
	n := program()
	for _, path := range paths(n) {
		at, _ := tree.Get(n, path...)
		sum := 1
		for i := range at.Kids {
			kid, _ := tree.Get(n, append(slices.Clone(path), i)...)
			sum += tree.Size(kid)
		}
		if tree.Size(at) != sum {
			t.Errorf("at %v: Size %d, its Kids' and 1 are %d", path, tree.Size(at), sum)
		}
	}
}

// R1: what is no right tree, and far too deep, or wide.

func TestTreesFarTooDeep(t *testing.T) {
	const deep = 1 << 17
	defer debug.SetMaxStack(debug.SetMaxStack(1 << 20)) // a call a node would break it
	for _, left := range []bool{true, false} {
		n, path := name("end"), make([]int, deep-1)
		for i := range deep - 1 {
			kids := []api.Node{n}
			if !left {
				kids, path[i] = []api.Node{{}, n}, 1
			}
			n = called(api.Call, "f", kids...)
		}
		want := deep
		if !left {
			want += deep - 1
		}
		got, ok := tree.Get(n, path...)
		if tree.Size(n) != want || !ok || got.Text != "end" || !slices.Equal(tree.Names(n), []string{"end", "f"}) || tree.Right(n) {
			t.Fatal("a very deep tree is told wrongly")
		}
		checkNoGet(t, n.Kids[0], append(slices.Clone(path), 0)...)
		again, _ := tree.Get(n)
		if !tree.Same(n, again) || tree.Same(n, again.Kids[len(again.Kids)-1]) {
			t.Fatal("a very deep tree is not the same as itself, or as what is in it")
		}
		if got, err := tree.Put(n, num(1), path...); err != api.ErrShape || got.Kids != nil {
			t.Fatalf("Put deep in it: %d", err)
		}
		if _, err := tree.Put(n, num(1), path[:39]...); (err == api.OK) != left {
			t.Fatalf("Put at its 40th node: %d", err)
		}
	}
}

func TestWideTrees(t *testing.T) {
	const wide = 1 << 18
	n := of(api.Block, slices.Repeat([]api.Node{of(api.Print, name("a"))}, wide)...)
	checkRight(t, n, true)
	got, err := tree.Put(n, num(5), wide-1, 0)
	if err != api.OK || got.Kids[wide-1].Kids[0].Num != 5 || got.Kids[wide-2].Kids[0].Text != "a" || tree.Size(got) != 2*wide+1 || tree.Same(n, got) {
		t.Errorf("Put in a wide Block: %d", err)
	}
	if l := tree.Names(n.Kids...); !slices.Equal(l, []string{"a"}) {
		t.Errorf("Names %q", l)
	}
}

// R3: nothing that was handed in is changed, and what is told is new memory.

// wreck changes all rows of n, up to what they have room for.
func wreck(n *api.Node) {
	for i := range n.Kids {
		wreck(&n.Kids[i])
	}
	room := n.Kids[:cap(n.Kids)]
	for i := range room {
		room[i] = api.Node{Kind: 99, Text: "wrecked", Num: -1}
	}
}

// memory tells where the rows and the Texts of n are.
func memory(n api.Node) map[any]int {
	found := map[any]int{}
	var look func(n api.Node)
	look = func(n api.Node) {
		if n.Text != "" {
			found[unsafe.StringData(n.Text)]++
		}
		if cap(n.Kids) > 0 {
			found[unsafe.SliceData(n.Kids)]++
		}
		for _, kid := range n.Kids {
			look(kid)
		}
	}
	look(n)
	return found
}

// checkNew checks that the answer shares no memory with the others, nor its rows with one another.
func checkNew(t *testing.T, what string, answer api.Node, others ...api.Node) {
	t.Helper()
	for at, times := range memory(answer) {
		if times > 1 {
			t.Errorf("%s: two parts of an answer share memory", what)
		}
		for i, other := range others {
			if memory(other)[at] > 0 {
				t.Errorf("%s: shares memory with %d", what, i)
			}
		}
	}
}

func TestGetAndPutTellNewMemory(t *testing.T) {
	n, kid, path := program(), of(api.Block, called(api.Var, "q", num(1)), of(api.Block)), []int{1, 1, 0, 1}
	n.Kids = append(make([]api.Node, 0, 8), n.Kids...)
	shared := n.Kids[0].Kids[1].Kids[3].Kids
	n.Kids[0].Kids[1].Kids = append(n.Kids[0].Kids[1].Kids, of(api.Block, shared...), api.Node{Kind: api.Block, Kids: shared})
	was, kidWas := text(n), text(kid)

	got, ok := tree.Get(n, path...)
	whole, _ := tree.Get(n)
	again, _ := tree.Get(n)
	put, err := tree.Put(n, kid, path...)
	second, _ := tree.Put(n, kid, path...)
	only, _ := tree.Put(n, kid)
	same, _ := tree.Put(n, n.Kids[1], 0)
	if !ok || err != api.OK {
		t.Fatal(ok, err)
	}
	checkNew(t, "Get", got, n)
	checkNew(t, "Get of the whole", whole, n, again)
	checkNew(t, "Put", put, n, kid, second)
	checkNew(t, "Put of the whole", only, kid)
	checkNew(t, "Put of a part", same, n)
	if text(n) != was || text(kid) != kidWas || !slices.Equal(path, []int{1, 1, 0, 1}) {
		t.Error("an argument was changed")
	}

	put2, same2 := text(second), text(same)
	for _, answer := range []*api.Node{&got, &whole, &put, &only} {
		wreck(answer)
	}
	if text(n) != was || text(kid) != kidWas || text(again) != was || text(second) != put2 {
		t.Error("an answer that is changed changes an argument, or another answer")
	}
	wreck(&n)
	wreck(&kid)
	if text(again) != was || text(second) != put2 || text(same) != same2 {
		t.Error("an argument that is changed changes an answer")
	}
}

func TestNamesTellNewMemory(t *testing.T) {
	n := program()
	was := text(n)
	first, second := tree.Names(n, n), tree.Names(n, n)
	texts := memory(n)
	for i, name := range first {
		if texts[unsafe.StringData(name)] > 0 || unsafe.StringData(name) == unsafe.StringData(second[i]) {
			t.Errorf("%q shares memory", name)
		}
	}
	for i := range first[:cap(first)] {
		first[:cap(first)][i] = "changed"
	}
	if want := strings.Fields("a b main max row"); !slices.Equal(second, want) || !slices.Equal(tree.Names(n), want) || text(n) != was {
		t.Error("an answer changed with another one, or an argument did")
	}
}

func TestNoArgumentIsChanged(t *testing.T) {
	n, other := program(), program()
	n.Kids[0].Kids[1].Kids = append(make([]api.Node, 0, 9), n.Kids[0].Kids[1].Kids...)
	was := text(n)
	room := text(api.Node{Kids: n.Kids[0].Kids[1].Kids[:9]})
	tree.Right(n)
	tree.Same(n, other)
	tree.Size(n)
	tree.Names(n, other)
	tree.Names(n.Kids...)
	tree.Put(n, of(0), 0, 1)
	tree.Put(n, num(1), 0, 1, 99)
	tree.Get(n, 0, 1, 99)
	if text(n) != was || text(other) != text(program()) || text(api.Node{Kids: n.Kids[0].Kids[1].Kids[:9]}) != room {
		t.Error("an argument was changed")
	}
}
