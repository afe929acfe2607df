package value_test

import (
	"fmt"
	"math"
	"math/big"
	"math/rand"
	"reflect"
	"slices"
	"strings"
	"testing"

	"clerestory/api"
	"clerestory/value"
)

// Short ways to say values.

const least, most = math.MinInt64, math.MaxInt64

func num(n int64) api.Value { return api.Value{Kind: api.IntValue, Num: n} }

func row(l ...int64) api.Value { return api.Value{Kind: api.ArrayValue, Row: l} }

var yes, no = api.Value{Kind: api.BoolValue, Num: 1}, api.Value{Kind: api.BoolValue}

// many tells a row of so many numbers, the last one of them last, all others 0.
func many(size int, last int64) api.Value {
	l := make([]int64, size)
	l[size-1] = last
	return row(l...)
}

// rightOnes tells values that are right: from the edges of each Kind, and from between.
func rightOnes() []api.Value {
	l := []api.Value{
		no, yes,
		{Kind: api.BoolValue, Row: []int64{}}, {Kind: api.BoolValue, Num: 1, Row: []int64{}}, {Kind: api.IntValue, Row: []int64{}}, {Kind: api.IntValue, Num: 1, Row: []int64{}},
		{Kind: api.ArrayValue}, row([]int64{}...), row(0), row(1), row(-1), row(12), row(1, 2), row(2, 1), row(1, 2, 3), row(0, 0), row(least), row(least, most), row(most),
		many(1023, 0), many(1024, 0), many(1024, 1), many(1024, least),
	}
	for _, n := range []int64{0, 1, 2, 3, 7, 10, 12, 100, 1<<31 - 1, 1 << 31, 1 << 32, 3037000500, 1 << 62, most - 1, most} {
		l = append(l, num(n), num(-n))
	}
	return append(l, num(least), num(least+1))
}

// wrongOnes tells values that are not right.
func wrongOnes() []api.Value {
	return []api.Value{
		{}, {Num: 1}, {Row: []int64{1}}, {Kind: 4}, {Kind: 4, Num: 1}, {Kind: 4, Row: []int64{1}}, {Kind: 255},
		{Kind: api.IntValue, Row: []int64{0}}, {Kind: api.IntValue, Num: 1, Row: []int64{1}}, {Kind: api.IntValue, Num: -1, Row: make([]int64, 1025)},
		{Kind: api.BoolValue, Num: 2}, {Kind: api.BoolValue, Num: -1}, {Kind: api.BoolValue, Num: least}, {Kind: api.BoolValue, Num: most}, {Kind: api.BoolValue, Num: 1 << 32},
		{Kind: api.BoolValue, Row: []int64{0}}, {Kind: api.BoolValue, Num: 1, Row: []int64{1}},
		{Kind: api.ArrayValue, Num: 1}, {Kind: api.ArrayValue, Num: -1}, {Kind: api.ArrayValue, Num: 1, Row: []int64{1}}, {Kind: api.ArrayValue, Num: least},
		many(1025, 0), many(1025, 1), many(5000, 0),
	}
}

// The chapter's words, written down once more.

var (
	binaries = []string{"||", "&&", "==", "!=", "<", "<=", ">", ">=", "+", "-", "*", "/", "%"}
	unaries  = []string{"-", "!"}
	// strangers are signs of neither.
	strangers = []string{"", " ", "=", "&", "|", "^", "<<", ">>", "<>", "=<", "=>", "===", "!==", "|||", "**", "++", "--", "+ ", " +", "- ", "!!", "~", "\x00", "-\x00", "\xff", "and", "true", "(", ";", "−", "÷"}
)

func plainRight(v api.Value) bool {
	if v.Kind == api.IntValue {
		return len(v.Row) == 0
	}
	if v.Kind == api.BoolValue {
		return slices.Contains([]int64{0, 1}, v.Num) && len(v.Row) == 0
	}
	return v.Kind == api.ArrayValue && v.Num == 0 && len(v.Row) < 1025
}

// wrapped tells the number of -2^63 to 2^63 - 1 that is n modulo 2^64.
func wrapped(n *big.Int) int64 {
	half, whole := new(big.Int).Lsh(big.NewInt(1), 63), new(big.Int).Lsh(big.NewInt(1), 64)
	n = new(big.Int).Add(n, half)
	return n.Mod(n, whole).Sub(n, half).Int64()
}

func plainBool(holds bool) api.Value {
	if holds {
		return yes
	}
	return no
}

// plainUnary is P11.2.
func plainUnary(op string, v api.Value) (api.Value, api.Errno) {
	if !slices.Contains(unaries, op) || !plainRight(v) {
		return api.Value{}, api.ErrArg
	}
	if op == "-" && v.Kind != api.IntValue || op == "!" && v.Kind != api.BoolValue {
		return api.Value{}, api.ErrKind
	}
	if op == "!" {
		return plainBool(v.Num != 1), api.OK
	}
	return num(wrapped(new(big.Int).Sub(big.NewInt(0), big.NewInt(v.Num)))), api.OK
}

func plainSame(a, b api.Value) bool {
	return a.Kind == b.Kind && a.Num == b.Num && slices.Equal(a.Row, b.Row)
}

// plainBinary is P11.3.
func plainBinary(op string, a, b api.Value) (api.Value, api.Errno) {
	if !slices.Contains(binaries, op) || !plainRight(a) || !plainRight(b) {
		return api.Value{}, api.ErrArg
	}
	if op == "==" || op == "!=" {
		return plainBool(plainSame(a, b) == (op == "==")), api.OK
	}
	wanted := api.IntValue
	if op == "||" || op == "&&" {
		wanted = api.BoolValue
	}
	if a.Kind != wanted || b.Kind != wanted {
		return api.Value{}, api.ErrKind
	}
	if (op == "/" || op == "%") && b.Num == 0 {
		return api.Value{}, api.ErrDivide
	}
	return plainReckoned(op, big.NewInt(a.Num), big.NewInt(b.Num)), api.OK
}

// plainReckoned tells what the operators of bools and ints tell, where there is no error.
func plainReckoned(op string, a, b *big.Int) api.Value {
	result := new(big.Int)
	switch op {
	case "||":
		return plainBool(a.Sign()+b.Sign() > 0)
	case "&&":
		return plainBool(a.Sign()+b.Sign() == 2)
	case "<":
		return plainBool(a.Cmp(b) == -1)
	case "<=":
		return plainBool(a.Cmp(b) != 1)
	case ">":
		return plainBool(a.Cmp(b) == 1)
	case ">=":
		return plainBool(a.Cmp(b) != -1)
	case "+":
		result.Add(a, b)
	case "-":
		result.Sub(a, b)
	case "*":
		result.Mul(a, b)
	case "/":
		result.Quo(a, b)
	case "%":
		result.Rem(a, b)
	}
	return num(wrapped(result))
}

// plainText is P11.4.
func plainText(values ...api.Value) string {
	var words []string
	for _, v := range values {
		switch {
		case !plainRight(v):
			words = append(words, "?")
		case v.Kind == api.BoolValue:
			words = append(words, []string{"false", "true"}[v.Num])
		case v.Kind == api.IntValue:
			words = append(words, big.NewInt(v.Num).String())
		default:
			// What fmt tells of a row of numbers is just what the chapter asks.
			words = append(words, fmt.Sprint(append([]int64{}, v.Row...)))
		}
	}
	return strings.Join(words, " ")
}

// What is told, held against that.

// shown tells a value in short.
func shown(v api.Value) string {
	return fmt.Sprintf("%.60s", fmt.Sprintf("{%d %d %d %v}", v.Kind, v.Num, len(v.Row), v.Row))
}

// fault tells what is wrong with what was told, and the error, where these were asked; nothing, if all is right.
func fault(got api.Value, err api.Errno, want api.Value, wanted api.Errno) string {
	switch {
	case err != wanted || got.Kind != want.Kind || got.Num != want.Num || len(got.Row) != 0:
		return fmt.Sprintf("%s, %d, asked: %s, %d", shown(got), err, shown(want), wanted)
	case err != api.OK && got.Row != nil:
		return fmt.Sprintf("a row beside %d", err)
	case err == api.OK && !value.Right(got):
		return shown(got) + ", which is not right"
	}
	return ""
}

func checkUnary(t *testing.T, op string, v, want api.Value, wanted api.Errno) {
	t.Helper()
	got, err := value.Unary(op, v)
	if f := fault(got, err, want, wanted); f != "" {
		t.Errorf("Unary(%q, %s) = %s", op, shown(v), f)
	}
}

func checkBinary(t *testing.T, op string, a, b, want api.Value, wanted api.Errno) {
	t.Helper()
	got, err := value.Binary(op, a, b)
	if f := fault(got, err, want, wanted); f != "" {
		t.Errorf("Binary(%q, %s, %s) = %s", op, shown(a), shown(b), f)
	}
}

func checkText(t *testing.T, want string, values ...api.Value) {
	t.Helper()
	if got := value.Text(values...); got != want {
		t.Errorf("Text of %d values = %.200q, want %.200q", len(values), got, want)
	}
}

// The chapter's examples.

func TestExamples(t *testing.T) {
	checkBinary(t, "%", num(-7), num(3), num(-1), api.OK)
	checkBinary(t, "==", num(1), yes, no, api.OK)
	checkBinary(t, "+", num(1), yes, api.Value{}, api.ErrKind)
	checkUnary(t, "-", num(least), num(least), api.OK)
	checkText(t, "3 true [1 2]", num(3), yes, row(1, 2))
}

// P11.1.

func TestRightValues(t *testing.T) {
	for _, v := range rightOnes() {
		if !value.Right(v) {
			t.Errorf("%s is not right", shown(v))
		}
	}
}

func TestWrongValues(t *testing.T) {
	for _, v := range wrongOnes() {
		if value.Right(v) {
			t.Errorf("%s is right", shown(v))
		}
	}
}

func TestRightOfEachKindNumAndSize(t *testing.T) {
	for kind := range 256 {
		for _, n := range []int64{least, -2, -1, 0, 1, 2, 3, 1 << 32, most} {
			for _, size := range []int{0, 1, 2, 1023, 1024, 1025, 1026, 4096} {
				v := api.Value{Kind: api.ValueKind(kind), Num: n, Row: make([]int64, size)}
				if got := value.Right(v); got != plainRight(v) {
					t.Fatalf("Right(%s) = %v", shown(v), got)
				}
			}
		}
	}
}

// P11.2.

func TestUnary(t *testing.T) {
	for _, c := range []struct {
		op      string
		v, want api.Value
		err     api.Errno
	}{
		{"-", num(5), num(-5), api.OK}, {"-", num(-5), num(5), api.OK}, {"-", num(0), num(0), api.OK}, {"-", num(most), num(least + 1), api.OK}, {"-", num(least + 1), num(most), api.OK},
		{"!", yes, no, api.OK}, {"!", no, yes, api.OK},
		{"-", yes, api.Value{}, api.ErrKind}, {"-", no, api.Value{}, api.ErrKind}, {"-", row(), api.Value{}, api.ErrKind}, {"-", row(1), api.Value{}, api.ErrKind},
		{"!", num(0), api.Value{}, api.ErrKind}, {"!", num(1), api.Value{}, api.ErrKind}, {"!", row(), api.Value{}, api.ErrKind}, {"!", row(1), api.Value{}, api.ErrKind},
		{"+", num(1), api.Value{}, api.ErrArg}, {"", num(1), api.Value{}, api.ErrArg}, {"--", num(1), api.Value{}, api.ErrArg}, {"!!", yes, api.Value{}, api.ErrArg}, {"!=", yes, api.Value{}, api.ErrArg},
		{"-", many(1025, 0), api.Value{}, api.ErrArg}, {"!", api.Value{Kind: api.BoolValue, Num: 2}, api.Value{}, api.ErrArg}, {"-", api.Value{}, api.Value{}, api.ErrArg},
	} {
		checkUnary(t, c.op, c.v, c.want, c.err)
	}
}

func TestUnaryOfAllSignsAndValues(t *testing.T) {
	for _, op := range slices.Concat(unaries, binaries, strangers) {
		for _, v := range append(rightOnes(), wrongOnes()...) {
			want, wanted := plainUnary(op, v)
			checkUnary(t, op, v, want, wanted)
		}
	}
}

// P11.3.

func TestBinaryOfInts(t *testing.T) {
	for _, c := range []struct {
		op         string
		a, b, want int64
	}{
		{"+", 2, 3, 5}, {"+", 2, -3, -1}, {"+", most, 1, least}, {"+", most, most, -2}, {"+", least, least, 0}, {"+", least, -1, most},
		{"-", 2, 3, -1}, {"-", 3, 2, 1}, {"-", 0, least, least}, {"-", least, 1, most}, {"-", most, -1, least}, {"-", -1, least, most},
		{"*", 2, 3, 6}, {"*", -2, 3, -6}, {"*", 1 << 62, 2, least}, {"*", 1 << 62, 4, 0}, {"*", most, most, 1}, {"*", least, -1, least}, {"*", least, least, 0}, {"*", 3037000500, 3037000500, -9223372036709301616},
		{"/", 7, 2, 3}, {"/", -7, 2, -3}, {"/", 7, -2, -3}, {"/", -7, -2, 3}, {"/", 1, 2, 0}, {"/", -1, 2, 0}, {"/", 0, 5, 0}, {"/", least, -1, least}, {"/", least, 1, least}, {"/", most, -1, least + 1}, {"/", most, least, 0}, {"/", least, most, -1}, {"/", least, 2, -1 << 62},
		{"%", 7, 2, 1}, {"%", -7, 2, -1}, {"%", 7, -2, 1}, {"%", -7, -2, -1}, {"%", 6, 3, 0}, {"%", -6, 3, 0}, {"%", 1, 2, 1}, {"%", -1, 2, -1}, {"%", least, -1, 0}, {"%", least, most, -1}, {"%", most, least, most}, {"%", least, 10, -8},
	} {
		checkBinary(t, c.op, num(c.a), num(c.b), num(c.want), api.OK)
	}
}

func TestBinaryThatCompares(t *testing.T) {
	for _, c := range []struct {
		a, b  int64
		holds string // the signs that hold of them, with a blank around each
	}{
		{1, 1, " == <= >= "}, {1, 2, " != < <= "}, {2, 1, " != > >= "}, {-1, 0, " != < <= "}, {0, -1, " != > >= "}, {-2, -1, " != < <= "},
		{least, most, " != < <= "}, {most, least, " != > >= "}, {least, least, " == <= >= "}, {most, most, " == <= >= "}, {least, 0, " != < <= "}, {most - 1, most, " != < <= "},
	} {
		for _, op := range []string{"==", "!=", "<", "<=", ">", ">="} {
			checkBinary(t, op, num(c.a), num(c.b), plainBool(strings.Contains(c.holds, " "+op+" ")), api.OK)
		}
	}
}

func TestBinaryOfBools(t *testing.T) {
	for _, c := range []struct{ a, b, or, and, alike api.Value }{{no, no, no, no, yes}, {no, yes, yes, no, no}, {yes, no, yes, no, no}, {yes, yes, yes, yes, yes}} {
		checkBinary(t, "||", c.a, c.b, c.or, api.OK)
		checkBinary(t, "&&", c.a, c.b, c.and, api.OK)
		checkBinary(t, "==", c.a, c.b, c.alike, api.OK)
		checkBinary(t, "!=", c.a, c.b, plainBool(c.alike.Num == 0), api.OK)
	}
}

func TestBinaryTellsWhetherAnyTwoAreTheSame(t *testing.T) {
	for _, c := range []struct {
		a, b  api.Value
		alike bool
	}{
		{num(0), no, false}, {num(1), yes, false}, {num(0), row(), false}, {no, row(), false}, {num(1), row(1), false}, {num(3), num(3), true},
		{row(), row(), true}, {row(), row([]int64{}...), true}, {num(2), api.Value{Kind: api.IntValue, Num: 2, Row: []int64{}}, true},
		{row(1, 2), row(1, 2), true}, {row(1, 2), row(2, 1), false}, {row(1), row(1, 1), false}, {row(), row(0), false}, {row(0), row(0, 0), false}, {row(1, 2, 3), row(1, 2, 4), false}, {row(1, 2, 3), row(0, 2, 3), false},
		{many(1024, 1), many(1024, 1), true}, {many(1024, 1), many(1024, 2), false}, {many(1024, 0), many(1023, 0), false},
	} {
		checkBinary(t, "==", c.a, c.b, plainBool(c.alike), api.OK)
		checkBinary(t, "==", c.b, c.a, plainBool(c.alike), api.OK)
		checkBinary(t, "!=", c.a, c.b, plainBool(!c.alike), api.OK)
		checkBinary(t, "!=", c.b, c.a, plainBool(!c.alike), api.OK)
	}
}

func TestBinaryTellsTheFirstError(t *testing.T) {
	wrong := api.Value{Kind: api.BoolValue, Num: 2}
	for _, c := range []struct {
		op   string
		a, b api.Value
		err  api.Errno
	}{
		// Division by 0, of an int alone.
		{"/", num(1), num(0), api.ErrDivide}, {"%", num(1), num(0), api.ErrDivide}, {"/", num(0), num(0), api.ErrDivide}, {"%", num(0), num(0), api.ErrDivide}, {"/", num(least), num(0), api.ErrDivide}, {"%", num(most), num(0), api.ErrDivide},
		{"/", yes, num(0), api.ErrKind}, {"%", yes, num(0), api.ErrKind}, {"/", row(1), num(0), api.ErrKind}, {"%", row(), num(0), api.ErrKind}, {"/", num(1), no, api.ErrKind}, {"%", num(1), no, api.ErrKind}, {"/", num(1), row(), api.ErrKind}, {"%", num(1), row(), api.ErrKind},
		{"/", wrong, num(0), api.ErrArg}, {"%", many(1025, 0), num(0), api.ErrArg}, {"//", num(1), num(0), api.ErrArg},
		// What the first bool says already makes no difference.
		{"||", yes, num(1), api.ErrKind}, {"&&", no, num(1), api.ErrKind}, {"||", num(1), yes, api.ErrKind}, {"&&", num(0), no, api.ErrKind}, {"||", num(1), num(1), api.ErrKind}, {"&&", row(), row(), api.ErrKind}, {"||", yes, row(), api.ErrKind},
		{"||", yes, wrong, api.ErrArg}, {"&&", no, wrong, api.ErrArg},
		// Of all others the one, the other, or both of another kind.
		{"<", row(), row(), api.ErrKind}, {"<", no, yes, api.ErrKind}, {"<=", num(1), yes, api.ErrKind}, {">", yes, num(1), api.ErrKind}, {">=", row(1), num(1), api.ErrKind}, {"+", row(1), row(2), api.ErrKind}, {"+", yes, yes, api.ErrKind}, {"-", num(1), no, api.ErrKind}, {"*", num(1), row(1), api.ErrKind},
		// What may not be an argument comes first.
		{"+", wrong, yes, api.ErrArg}, {"+", yes, wrong, api.ErrArg}, {"==", wrong, wrong, api.ErrArg}, {"!=", num(1), api.Value{}, api.ErrArg}, {"==", many(1025, 0), many(1025, 0), api.ErrArg}, {"==", num(1), api.Value{Kind: api.IntValue, Num: 1, Row: []int64{0}}, api.ErrArg},
		{"!", yes, yes, api.ErrArg}, {"&", num(1), num(1), api.ErrArg}, {"", num(1), num(1), api.ErrArg}, {"=", num(1), yes, api.ErrArg},
	} {
		checkBinary(t, c.op, c.a, c.b, api.Value{}, c.err)
	}
}

func TestBinaryOfAllSignsAndPairsOfValues(t *testing.T) {
	values := append(rightOnes(), wrongOnes()...)
	for _, op := range slices.Concat(binaries, unaries, strangers) {
		for _, a := range values {
			for _, b := range values {
				want, wanted := plainBinary(op, a, b)
				checkBinary(t, op, a, b, want, wanted)
			}
		}
	}
}

func TestBinaryOfAllSmallInts(t *testing.T) {
	for _, op := range binaries {
		for a := int64(-12); a <= 12; a++ {
			for b := int64(-12); b <= 12; b++ {
				want, wanted := plainBinary(op, num(a), num(b))
				checkBinary(t, op, num(a), num(b), want, wanted)
			}
		}
	}
}

func TestBinaryOfIntsByChance(t *testing.T) {
	r := rand.New(rand.NewSource(11))
	// Numbers of any size, since most of all numbers are large ones.
	by := func() api.Value { return num(int64(r.Uint64()) >> r.Intn(64)) }
	for range 20000 {
		a, b, op := by(), by(), binaries[r.Intn(len(binaries))]
		want, wanted := plainBinary(op, a, b)
		checkBinary(t, op, a, b, want, wanted)
	}
}

// P11.4.

func TestText(t *testing.T) {
	checkText(t, "")
	checkText(t, "", []api.Value{}...)
	checkText(t, "0", num(0))
	checkText(t, "-1", num(-1))
	checkText(t, "9223372036854775807 -9223372036854775808", num(most), num(least))
	checkText(t, "true false", yes, no)
	checkText(t, "[]", row())
	checkText(t, "[] [] [0]", row(), row([]int64{}...), row(0))
	checkText(t, "[1 -2 3]", row(1, -2, 3))
	checkText(t, "[-9223372036854775808 9223372036854775807]", row(least, most))
	checkText(t, "1 [2 3] true [4] -5", num(1), row(2, 3), yes, row(4), num(-5))
	checkText(t, "?", api.Value{})
	checkText(t, "1 ? 2 ?", num(1), api.Value{Kind: api.BoolValue, Num: 2}, num(2), many(1025, 0))
	checkText(t, "["+strings.Repeat("0 ", 1023)+"7]", many(1024, 7))
}

func TestTextOfEachValue(t *testing.T) {
	all := append(rightOnes(), wrongOnes()...)
	for _, v := range all {
		checkText(t, plainText(v), v)
	}
	checkText(t, plainText(all...), all...)
	for _, v := range wrongOnes() {
		checkText(t, "?", v)
		checkText(t, "1 ? true", num(1), v, yes)
	}
}

func TestTextOfMoreValuesThanAnArrayHolds(t *testing.T) {
	values := make([]api.Value, 5000)
	for i := range values {
		values[i] = num(int64(i) - 2500)
	}
	checkText(t, plainText(values...), values...)
}

// P11.5: what follows.

func TestRightValuesAreTheSameJustIfTheirTextsAre(t *testing.T) {
	values := rightOnes()
	for n := int64(-21); n <= 21; n++ {
		values = append(values, num(n), row(n), row(n, n), row(0, n), row(n, 0), row(n, 1, 1))
	}
	for _, a := range values {
		for _, b := range values {
			alike, err := value.Binary("==", a, b)
			if err != api.OK || (alike.Num == 1) != (value.Text(a) == value.Text(b)) {
				t.Errorf("%s and %s: the same %s, %d; texts %.60q, %.60q", shown(a), shown(b), shown(alike), err, value.Text(a), value.Text(b))
			}
		}
	}
}

// R3, R4: nothing is changed, nothing is kept.

func TestNothingIsChanged(t *testing.T) {
	under := []int64{5, 1, 2, 3, 6}
	a, b := row(under[1:4]...), row(1, 2, 3)
	given := []api.Value{a, b, num(1), {}}
	before := []api.Value{row(1, 2, 3), row(1, 2, 3), num(1), {}}
	for _, op := range slices.Concat(binaries, unaries, strangers) {
		value.Binary(op, a, b)
		value.Unary(op, a)
	}
	value.Text(given[:2]...)
	value.Right(a)
	if !slices.Equal(under, []int64{5, 1, 2, 3, 6}) || !reflect.DeepEqual(given, before) {
		t.Errorf("changed: %v, %v", under, given)
	}
}

func TestCallsDoNotHangOnThoseAheadOfThem(t *testing.T) {
	for range 3 {
		checkBinary(t, "/", num(1), num(0), api.Value{}, api.ErrDivide)
		checkBinary(t, "/", num(9), num(2), num(4), api.OK)
		checkBinary(t, "?", num(9), num(2), api.Value{}, api.ErrArg)
		checkUnary(t, "-", num(9), num(-9), api.OK)
		checkUnary(t, "-", yes, api.Value{}, api.ErrKind)
		checkUnary(t, "!", yes, no, api.OK)
		checkText(t, "9 ? true", num(9), api.Value{}, yes)
	}
}
