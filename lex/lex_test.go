package lex_test

import (
	"fmt"
	"math/big"
	"reflect"
	"slices"
	"strings"
	"testing"

	"clerestory/api"
	"clerestory/lex"
)

// What the chapter's Words say, written down once more.

const (
	letters = "abcdefghijklmnopqrstuvwxyzABCDEFGHIJKLMNOPQRSTUVWXYZ_"
	digits  = "0123456789"
	blanks  = "\x20\x09\x0a\x0d"
)

var (
	words = []string{"func", "var", "if", "else", "while", "return", "print", "true", "false", "len", "read"}
	signs = []string{"(", ")", "{", "}", "[", "]", ",", ";", "=", "==", "!=", "<", "<=", ">", ">=", "+", "-", "*", "/", "%", "!", "&&", "||"}
)

// made tells whether s has bytes, all of them among these.
func made(s, of string) bool {
	for i := range len(s) {
		if strings.IndexByte(of, s[i]) < 0 {
			return false
		}
	}
	return s != ""
}

func plainName(s string) bool {
	return made(s, letters+digits) && made(s[:1], letters) && len(s) <= 24 && !slices.Contains(words, s)
}

func plainInteger(s string) bool {
	if !made(s, digits) || s[0] == '0' && s != "0" {
		return false
	}
	n, ok := new(big.Int).SetString(s, 10)
	return ok && n.Cmp(new(big.Int).Lsh(big.NewInt(1), 63)) < 0
}

// plainRun tells the letters and digits that s begins with.
func plainRun(s string) string {
	size := 0
	for size < len(s) && made(s[size:size+1], letters+digits) {
		size++
	}
	return s[:size]
}

// plainSign tells the longest sign that s begins with.
func plainSign(s string) string {
	longest := ""
	for _, sign := range signs {
		if strings.HasPrefix(s, sign) && len(sign) > len(longest) {
			longest = sign
		}
	}
	return longest
}

// plainKind tells what letters and digits are, 0 if no token.
func plainKind(run string) api.TokenKind {
	switch {
	case slices.Contains(words, run):
		return api.TokWord
	case plainName(run):
		return api.TokName
	case plainInteger(run):
		return api.TokInt
	}
	return 0
}

// plainTokens is a word-for-word reading of P5.1.
func plainTokens(s string) ([]api.Token, api.Fault) {
	var l []api.Token
	for at := 0; at < len(s); {
		rest := s[at:]
		if made(rest[:1], blanks) {
			at++
			continue
		}
		if strings.HasPrefix(rest, "//") {
			comment, _, _ := strings.Cut(rest, "\n")
			at += len(comment)
			continue
		}
		text, kind := plainRun(rest), api.TokSign
		if text != "" {
			kind = plainKind(text)
			if kind == 0 {
				return nil, api.Fault{Err: api.ErrToken, At: at}
			}
		} else if text = plainSign(rest); text == "" {
			return nil, api.Fault{Err: api.ErrByte, At: at}
		}
		l = append(l, api.Token{Kind: kind, Text: text, At: at})
		at += len(text)
	}
	return append(l, api.Token{Kind: api.TokEnd, At: len(s)}), api.Fault{}
}

// Short ways to say what is wanted.

func name(text string, at int) api.Token { return api.Token{Kind: api.TokName, Text: text, At: at} }
func word(text string, at int) api.Token { return api.Token{Kind: api.TokWord, Text: text, At: at} }
func num(text string, at int) api.Token  { return api.Token{Kind: api.TokInt, Text: text, At: at} }
func sign(text string, at int) api.Token { return api.Token{Kind: api.TokSign, Text: text, At: at} }
func end(at int) api.Token               { return api.Token{Kind: api.TokEnd, At: at} }

// checkTokens checks that s is these tokens.
func checkTokens(t *testing.T, s string, want ...api.Token) {
	t.Helper()
	if l, f := lex.Tokens(s); !slices.Equal(l, want) || f != (api.Fault{}) {
		t.Errorf("Tokens(%.60q) = %.300v, %v, want %.300v", s, fmt.Sprint(l), f, fmt.Sprint(want))
	}
}

// checkFault checks that of s this fault is told, and no tokens.
func checkFault(t *testing.T, s string, err api.Errno, at int) {
	t.Helper()
	if l, f := lex.Tokens(s); len(l) != 0 || f != (api.Fault{Err: err, At: at}) {
		t.Errorf("Tokens(%.60q) = %.300v, %v, want no tokens, {%d %d}", s, fmt.Sprint(l), f, err, at)
	}
}

// P5.1: blanks, comments, the end.

func TestExamples(t *testing.T) {
	checkTokens(t, "var a1=3; // x", word("var", 0), name("a1", 4), sign("=", 6), num("3", 7), sign(";", 8), end(14))
	checkFault(t, "01", api.ErrToken, 0)
	checkFault(t, "1a", api.ErrToken, 0)
	checkFault(t, "a & b", api.ErrByte, 2)
	checkTokens(t, "a<==", name("a", 0), sign("<=", 1), sign("=", 3), end(4))
}

func TestOrdinaryProgram(t *testing.T) {
	checkTokens(t, "func f(a, b_2) {\n\tif a>=b_2 { print [2;len(a)]; }\r\n}\n",
		word("func", 0), name("f", 5), sign("(", 6), name("a", 7), sign(",", 8), name("b_2", 10), sign(")", 13), sign("{", 15),
		word("if", 18), name("a", 21), sign(">=", 22), name("b_2", 24), sign("{", 28), word("print", 30),
		sign("[", 36), num("2", 37), sign(";", 38), word("len", 39), sign("(", 42), name("a", 43), sign(")", 44), sign("]", 45), sign(";", 46),
		sign("}", 48), sign("}", 51), end(53))
}

func TestTextsWithoutTokens(t *testing.T) {
	for _, s := range []string{"", " ", "\t", "\n", "\r", " \t\n\r\r\n\t ", "//", "///", "// a", "//\n", "//\n//", "//\r", " // a \n // b", "//a\n\n"} {
		checkTokens(t, s, end(len(s)))
	}
}

func TestBlanksStandBetweenTokens(t *testing.T) {
	for i := range 256 {
		b := string([]byte{byte(i)})
		switch {
		case made(b, blanks):
			checkTokens(t, "a"+b+"b", name("a", 0), name("b", 2), end(3))
			checkTokens(t, b+"="+b+b+"="+b, sign("=", 1), sign("=", 4), end(6))
		case made(b, letters+digits):
			checkTokens(t, "a"+b+"b", name("a"+b+"b", 0), end(3))
		case plainSign(b) != "":
			checkTokens(t, "a"+b+"b", name("a", 0), sign(b, 1), name("b", 2), end(3))
		default:
			checkFault(t, "a"+b+"b", api.ErrByte, 1)
		}
	}
}

func TestCommentsEndAtByte10Alone(t *testing.T) {
	checkTokens(t, "// a\nb", name("b", 5), end(6))
	checkTokens(t, "a//b\nc", name("a", 0), name("c", 5), end(6))
	checkTokens(t, "a//b//c", name("a", 0), end(7))
	checkTokens(t, "a// b\rc\r\nd", name("a", 0), name("d", 9), end(10))
	checkTokens(t, "a ///* b", name("a", 0), end(8))
	checkTokens(t, "a/ /b", name("a", 0), sign("/", 1), sign("/", 3), name("b", 4), end(5))
	checkTokens(t, "=//\n=", sign("=", 0), sign("=", 4), end(5))
	checkTokens(t, "/\n//\n/", sign("/", 0), sign("/", 5), end(6))
	for i := range 256 {
		if b := string([]byte{byte(i)}); b != "\n" {
			checkTokens(t, "//"+b+"01\na", name("a", 6), end(7))
			checkTokens(t, "//"+b, end(3))
		}
	}
}

// P5.1: letters and digits.

func TestWordsAndWhatIsNearlyOne(t *testing.T) {
	for _, w := range words {
		checkTokens(t, w, word(w, 0), end(len(w)))
		checkTokens(t, w+"("+w, word(w, 0), sign("(", len(w)), word(w, len(w)+1), end(2*len(w)+1))
		for _, s := range []string{w + "s", w + "_", w + "0", "a" + w, "_" + w, w + w, strings.ToUpper(w), strings.ToUpper(w[:1]) + w[1:], w[:len(w)-1]} {
			checkTokens(t, s, name(s, 0), end(len(s)))
		}
		checkFault(t, "1"+w, api.ErrToken, 0)
	}
}

func TestNamesOfEachLetterAndDigit(t *testing.T) {
	for _, l := range letters {
		checkTokens(t, string(l), name(string(l), 0), end(1))
		checkTokens(t, "x"+string(l), name("x"+string(l), 0), end(2))
		checkFault(t, "7"+string(l), api.ErrToken, 0)
	}
	for _, d := range digits {
		checkTokens(t, "x"+string(d), name("x"+string(d), 0), end(2))
		checkTokens(t, string(d), num(string(d), 0), end(1))
	}
}

func TestHowLongNamesAre(t *testing.T) {
	for _, first := range []string{"a", "_", "Z"} {
		for _, more := range []string{"b", "_", "9"} {
			most := first + strings.Repeat(more, 23)
			checkTokens(t, most, name(most, 0), end(24))
			checkTokens(t, most+" "+most, name(most, 0), name(most, 25), end(49))
			checkFault(t, most+more, api.ErrToken, 0)
			checkFault(t, "f "+most+more+" g", api.ErrToken, 2)
			checkFault(t, first+strings.Repeat(more, 1<<16), api.ErrToken, 0)
		}
	}
}

func TestIntegers(t *testing.T) {
	for _, s := range []string{"0", "1", "9", "10", "100", "999", "1234567890", "1000000000000000000", "999999999999999999", "9223372036854775799", "9223372036854775806", "9223372036854775807"} {
		checkTokens(t, s, num(s, 0), end(len(s)))
		checkTokens(t, "-"+s+";", sign("-", 0), num(s, 1), sign(";", 1+len(s)), end(2+len(s)))
	}
	for _, s := range []string{
		"00", "01", "007", "0x1", "0_0", "1_0", "1e3", "1a", "1_", "0a", "12ab34",
		"9223372036854775808", "9223372036854775810", "9300000000000000000", "9999999999999999999", "10000000000000000000",
		"18446744073709551615", "18446744073709551616", "18446744073709551617", "09223372036854775807", "00000000000000000001",
		strings.Repeat("1", 1000), strings.Repeat("9", 1<<20), strings.Repeat("0", 1<<20), strings.Repeat("0", 1<<20) + "1",
	} {
		checkFault(t, s, api.ErrToken, 0)
		checkFault(t, "a = "+s+";", api.ErrToken, 4)
	}
}

// P5.1: signs.

func TestSigns(t *testing.T) {
	for _, s := range signs {
		checkTokens(t, s, sign(s, 0), end(len(s)))
		checkTokens(t, "a"+s+"1", name("a", 0), sign(s, 1), num("1", 1+len(s)), end(2+len(s)))
	}
}

func TestTheLongestSignIsTaken(t *testing.T) {
	checkTokens(t, "===", sign("==", 0), sign("=", 2), end(3))
	checkTokens(t, "====", sign("==", 0), sign("==", 2), end(4))
	checkTokens(t, "!==", sign("!=", 0), sign("=", 2), end(3))
	checkTokens(t, "!!=", sign("!", 0), sign("!=", 1), end(3))
	checkTokens(t, "<>=", sign("<", 0), sign(">=", 1), end(3))
	checkTokens(t, "=<", sign("=", 0), sign("<", 1), end(2))
	checkTokens(t, "=!", sign("=", 0), sign("!", 1), end(2))
	checkTokens(t, "&&&&", sign("&&", 0), sign("&&", 2), end(4))
	checkTokens(t, "||||", sign("||", 0), sign("||", 2), end(4))
	checkTokens(t, "--", sign("-", 0), sign("-", 1), end(2))
	checkTokens(t, "= =", sign("=", 0), sign("=", 2), end(3))
	checkTokens(t, "*/", sign("*", 0), sign("/", 1), end(2))
	for _, a := range signs {
		for _, b := range signs {
			want, fault := plainTokens(a + b)
			if fault.Err != api.OK {
				t.Fatalf("%q: %v", a+b, fault)
			}
			checkTokens(t, a+b, want...)
			checkTokens(t, a+" "+b, sign(a, 0), sign(b, len(a)+1), end(len(a)+1+len(b)))
		}
	}
}

// P5.1: faults.

func TestBytesThatBeginNothing(t *testing.T) {
	count := 0
	for i := range 256 {
		b := string([]byte{byte(i)})
		if made(b, letters+digits+blanks) || plainSign(b) != "" {
			continue
		}
		count++
		checkFault(t, b, api.ErrByte, 0)
		checkFault(t, "ab "+b, api.ErrByte, 3)
		checkFault(t, "ab"+b+"cd", api.ErrByte, 2)
		checkFault(t, "// c\n"+b+" ", api.ErrByte, 5)
		checkFault(t, "1"+b+"01", api.ErrByte, 1)
	}
	if count != 256-53-10-4-17 {
		t.Errorf("%d bytes begin nothing", count)
	}
	checkFault(t, "|", api.ErrByte, 0)
	checkFault(t, "|||", api.ErrByte, 2)
	checkFault(t, "&&&", api.ErrByte, 2)
	checkFault(t, "&|", api.ErrByte, 0)
	checkFault(t, "a|b", api.ErrByte, 1)
	checkFault(t, "&=", api.ErrByte, 0)
	checkFault(t, "a é", api.ErrByte, 2)
}

func TestTheFirstFaultIsTold(t *testing.T) {
	checkFault(t, "01 &", api.ErrToken, 0)
	checkFault(t, "& 01", api.ErrByte, 0)
	checkFault(t, "a 1a 01 $", api.ErrToken, 2)
	checkFault(t, "// $\n a $ 01", api.ErrByte, 8)
	checkFault(t, strings.Repeat("a ", 1000)+"01", api.ErrToken, 2000)
	checkFault(t, strings.Repeat("\n", 1000)+"\x00", api.ErrByte, 1000)
	checkFault(t, "1\x80", api.ErrByte, 1)
	checkFault(t, "1a\x80", api.ErrToken, 0)
	if l, _ := lex.Tokens("a b c $"); l != nil {
		t.Errorf("tokens beside a fault: %v", l)
	}
}

// P5.2.

func TestWordsInTheirOrder(t *testing.T) {
	if l := lex.Words(); !slices.Equal(l, words) {
		t.Errorf("Words() = %q, want %q", l, words)
	}
}

func TestName(t *testing.T) {
	for _, s := range []string{"a", "_", "A", "__", "a1", "_1", "a_b", "x9y", "Func", "lens", "le", "reads", "i", "iff", strings.Repeat("q", 24), "_" + strings.Repeat("0", 23)} {
		if !lex.Name(s) {
			t.Errorf("Name(%q) = false", s)
		}
	}
	wrong := append([]string{"", " ", "0", "1", "1a", "9_", " a", "a ", "a b", "a\n", "a//", "a-b", "a.b", "-a", "é", "aé", "a\x00", "\xff", "a\x80", "==", strings.Repeat("q", 25), strings.Repeat("q", 1<<20)}, words...)
	for _, s := range wrong {
		if lex.Name(s) {
			t.Errorf("Name(%.40q) = true", s)
		}
	}
	for i := range 256 {
		b := string([]byte{byte(i)})
		if lex.Name(b) != plainName(b) || lex.Name("a"+b) != plainName("a"+b) || lex.Name("a"+b+"a") != plainName("a"+b+"a") {
			t.Errorf("Name of the byte %d, alone or in others, is not told rightly", i)
		}
	}
}

// P5.1 to P5.3 of all small texts, and of pieces put side by side.

// texts tells all rows of up to count pieces, one behind the other.
func texts(count int, pieces ...string) []string {
	all, last := []string{""}, []string{""}
	for range count {
		var next []string
		for _, s := range last {
			for _, p := range pieces {
				next = append(next, s+p)
			}
		}
		all, last = append(all, next...), next
	}
	return all
}

func manyTexts() []string {
	return slices.Concat(
		texts(5, "a", "0", "1", " ", "\n", "/", "=", "<", "|"),
		texts(4, "if", "x", "_", "10", "\r", "\t", "//", "\n", "!", "&", "&&", ">=", "\x80"),
		texts(3, append(slices.Concat(words, signs), "a", "0", "9223372036854775807", "abcdefghijklmnopqrstuvw", " ", "//", "\n", "\x00")...),
	)
}

func TestAllSmallTexts(t *testing.T) {
	errs := map[api.Errno]int{}
	for _, s := range manyTexts() {
		l, f := lex.Tokens(s)
		want, fault := plainTokens(s)
		if !slices.Equal(l, want) || f != fault {
			t.Fatalf("Tokens(%q) = %v, %v, want %v, %v", s, l, f, want, fault)
		}
		if lex.Name(s) != plainName(s) {
			t.Fatalf("Name(%q) = %v", s, lex.Name(s))
		}
		errs[f.Err]++
	}
	if errs[api.OK] == 0 || errs[api.ErrToken] == 0 || errs[api.ErrByte] == 0 {
		t.Errorf("not each answer came: %v", errs)
	}
}

// P5.3: what follows.

// between tells whether s is blanks and comments alone; if open, the last comment may end with s.
func between(s string, open bool) bool {
	for s != "" {
		if made(s[:1], blanks) {
			s = s[1:]
			continue
		}
		_, rest, ended := strings.Cut(s, "\n")
		if !strings.HasPrefix(s, "//") || !ended && !open {
			return false
		}
		s = rest
	}
	return true
}

// alike tells whether the tokens are the same but for where they begin.
func alike(a, b []api.Token) bool {
	return slices.EqualFunc(a, b, func(x, y api.Token) bool { return x.Kind == y.Kind && x.Text == y.Text })
}

func TestTokensRiseAndBlanksAndCommentsAreBetween(t *testing.T) {
	for _, s := range manyTexts() {
		l, f := lex.Tokens(s)
		if f.Err != api.OK {
			if f.At < 0 || f.At >= len(s) {
				t.Fatalf("%q: a fault at %d", s, f.At)
			}
			continue
		}
		last := 0
		for i, x := range l {
			if x.At < last || !strings.HasPrefix(s[x.At:], x.Text) || !between(s[last:x.At], x.Kind == api.TokEnd) {
				t.Fatalf("%q: %v stands wrongly", s, x)
			}
			if (x.Text == "") != (x.Kind == api.TokEnd) || (x.Kind == api.TokEnd) != (i == len(l)-1) {
				t.Fatalf("%q: %v is no token, or not the end", s, x)
			}
			last = x.At + len(x.Text)
		}
		if last != len(s) {
			t.Fatalf("%q: the end is told at %d", s, last)
		}
	}
}

func TestTextsOfTokensAreTheSameTokens(t *testing.T) {
	for _, s := range manyTexts() {
		l, f := lex.Tokens(s)
		if f.Err != api.OK {
			continue
		}
		var parts []string
		for _, x := range l {
			parts = append(parts, x.Text)
		}
		for _, blank := range []string{" ", "\n", "\t", "\r", " //\n"} {
			again, f := lex.Tokens(strings.Join(parts, blank))
			if f.Err != api.OK || !alike(l, again) {
				t.Fatalf("%q: %v, with %q between %v, %v", s, l, blank, again, f)
			}
		}
	}
}

func TestLongTexts(t *testing.T) {
	const many = 1 << 18
	blankRow := strings.Repeat(" \t\r\n", many)
	checkTokens(t, blankRow+"a"+blankRow, name("a", 4*many), end(8*many+1))
	comment := "//" + strings.Repeat("/ 01 $\x80", many)
	checkTokens(t, comment+"\n;", sign(";", len(comment)+1), end(len(comment)+2))
	checkTokens(t, strings.Repeat("//\n", many), end(3*many))
	l, f := lex.Tokens(strings.Repeat("while 12<=b1;", many))
	if f.Err != api.OK || len(l) != 5*many+1 || l[5*many] != end(13*many) || l[5*many-2] != name("b1", 13*many-3) {
		t.Errorf("%d tokens, %v", len(l), f)
	}
}

// R3, R4: what is told is new memory, and the same each time.

func TestNothingIsSharedBetweenCalls(t *testing.T) {
	const s = "var a1=3; // x"
	first, _ := lex.Tokens(s)
	second, _ := lex.Tokens(s)
	want := slices.Clone(second)
	for i := range first[:cap(first)] {
		first[:cap(first)][i] = api.Token{Kind: api.TokSign, Text: "changed", At: -1}
	}
	third, _ := lex.Tokens(s)
	if !reflect.DeepEqual(second, want) || !reflect.DeepEqual(third, want) {
		t.Errorf("an answer changed with another one: %v, %v, want %v", second, third, want)
	}

	told, other := lex.Words(), lex.Words()
	for i := range told[:cap(told)] {
		told[:cap(told)][i] = "changed"
	}
	if !slices.Equal(other, words) || !slices.Equal(lex.Words(), words) {
		t.Errorf("the words changed with an answer: %q, %q", other, lex.Words())
	}
	checkTokens(t, "if changed", word("if", 0), name("changed", 3), end(10))
	if lex.Name("if") || !lex.Name("changed") {
		t.Error("what is a name changed with an answer")
	}
}
