package run_test

import (
	"fmt"
	"math"
	"strings"
	"testing"

	"clerestory/api"
	"clerestory/run"
	"clerestory/value"
)

// P12.2: statements.

func TestVars(t *testing.T) {
	does(t, "var a = 1; print a;", "1", api.OK)
	does(t, "var a = 1; var b = a + 1; print b; print a;", "2 1", api.OK)
	does(t, "var a = true; print a; var b = [2; 3]; print b;", "true [3 3]", api.OK)
	// It is there from its statement on, to its Block's end.
	does(t, "var a = 1; { var a = a + 1; print a; a = 9; print a; } print a;", "2 9 1", api.OK)
	does(t, "var a = 1; { print a; a = 5; var a = a + 1; print a; } print a;", "1 6 5", api.OK)
	does(t, "var a = 1; { var a = 2; { var a = 3; print a; } print a; } print a;", "3 2 1", api.OK)
	does(t, "var a = 1; { { a = 2; } print a; } print a;", "2 2", api.OK)
	does(t, "{ var a = 1; print a; } { var a = 2; print a; } var a = 3; print a;", "1 2 3", api.OK)
	does(t, "var a = 1; if true { var a = 2; print a; } print a; if false { } else { var a = 3; print a; } print a;", "2 1 3 1", api.OK)
	does(t, "var a = 1; var b = 2; { var b = a; var a = b + 10; print a; print b; } print a; print b;", "11 1 1 2", api.OK)
	// Each time that its Block is gone through it is another one.
	does(t, "var i = 0; while i < 3 { i = i + 1; var i = 7; print i; i = 8; } print i;", "7 7 7 3", api.OK)
	does(t, "var i = 0; var a = 0; while i < 3 { print a; var a = i + 10; print a; a = 99; i = i + 1; } print a;", "0 10 0 11 0 12 0", api.OK)
	does(t, "var a = 1 / 0; print 2;", "", api.ErrDivide)
}

func TestSetsOfNames(t *testing.T) {
	does(t, "var a = 1; a = 2; print a; a = a + a; print a;", "2 4", api.OK)
	does(t, "var a = 1; a = true; print a; a = [1; 5]; print a; a = 3; print a;", "true [5] 3", api.OK)
	does(t, "var a = 1; var b = 2; a = b; b = 3; print a; print b;", "2 3", api.OK)
	does(t, "var a = 1; a = 1 / 0; print a;", "", api.ErrDivide)
}

func TestSetsOfIndexes(t *testing.T) {
	does(t, "var a = [3; 0]; a[0] = 1; print a; a[2] = 5; print a; a[1] = -1; print a; a[1] = a[2]; print a;", "[1 0 0] [1 0 5] [1 -1 5] [1 5 5]", api.OK)
	does(t, "var a = [1024; 0]; a[1023] = 7; print a[1023] + a[1022] + a[0];", "7", api.OK)
	does(t, "var a = [2; 0]; { a[0] = 4; var a = [2; 1]; a[1] = 3; print a; } print a;", "[1 3] [4 0]", api.OK)
	// Its second expression, then the expression, then what may not be.
	does(t, "var a = [9; 0]; a[p(2)] = p(3); print a;", "2 3 [0 0 3 0 0 0 0 0 0]", api.OK)
	does(t, "var a = 1; a[p(2)] = p(3); print 4;", "2 3", api.ErrKind)
	does(t, "var a = [1; 0]; a[p(2)] = p(3); print 4;", "2 3", api.ErrIndex)
	does(t, "var a = 1; a[1 / 0] = p(3);", "", api.ErrDivide)
	does(t, "var a = 1; a[p(2)] = 1 / 0;", "2", api.ErrDivide)
	does(t, "var a = [1; 0]; a[p(2)] = read();", "2", api.ErrInput)
	for place, err := range map[string]api.Errno{
		"a[0] = 1": api.OK, "a[1] = 1": api.OK, "a[2] = 1": api.ErrIndex, "a[-1] = 1": api.ErrIndex, "a[1024] = 1": api.ErrIndex, "a[9223372036854775807] = 1": api.ErrIndex, "a[4294967296] = 1": api.ErrIndex, "a[-4294967296] = 1": api.ErrIndex,
		"a[true] = 1": api.ErrKind, "a[a] = 1": api.ErrKind, "b[0] = 1": api.ErrKind, "b[true] = 1": api.ErrKind, "b[9] = true": api.ErrKind, "c[0] = 1": api.ErrKind, "c[0] = true": api.ErrKind, "e[0] = 1": api.ErrIndex,
		"a[0] = true": api.ErrKind, "a[1] = a": api.ErrKind, "a[2] = true": api.ErrIndex, "a[-1] = a": api.ErrIndex, "e[0] = true": api.ErrIndex, "a[false] = true": api.ErrKind,
	} {
		out := ""
		if err == api.OK {
			out = "1"
		}
		does(t, "var a = [2; 0]; var b = 5; var c = true; var e = [0; 0]; "+place+"; print 1;", out, err)
	}
}

func TestIfs(t *testing.T) {
	does(t, "if true { print 1; } print 2;", "1 2", api.OK)
	does(t, "if false { print 1; } print 2;", "2", api.OK)
	does(t, "if true { print 1; } else { print 2; }", "1", api.OK)
	does(t, "if false { print 1; } else { print 2; }", "2", api.OK)
	does(t, "if 1 < 2 { if 2 < 1 { print 1; } else { print 2; } } else { print 3; }", "2", api.OK)
	for _, e := range []string{"0", "1", "[1; 1]", "[0; 0]", "none()", "id(1)"} {
		does(t, "print 1; if "+e+" { print 2; } else { print 3; }", "1", api.ErrKind)
	}
	does(t, "if id(true) { print 1; }", "1", api.OK)
	does(t, "if 1 / 0 == 1 { print 1; } else { print 2; }", "", api.ErrDivide)
}

func TestWhiles(t *testing.T) {
	does(t, "while false { print 1; } print 2;", "2", api.OK)
	does(t, "var i = 0; while i < 3 { print i; i = i + 1; } print 9;", "0 1 2 9", api.OK)
	does(t, "var i = 0; while p(i) < 2 { i = i + 1; }", "0 1 2", api.OK)
	does(t, "var i = 0; while i < 2 { var j = 0; while j < i + 1 { print i * 10 + j; j = j + 1; } i = i + 1; }", "0 10 11", api.OK)
	for _, e := range []string{"0", "1", "[1; 1]", "none()"} {
		does(t, "print 1; while "+e+" { print 2; }", "1", api.ErrKind)
	}
	does(t, "var b = true; while b { print b; b = 1; } print 2;", "true", api.ErrKind)
	does(t, "var i = 2; while 6 / i > 0 { print i; i = i - 1; }", "2 1", api.ErrDivide)
}

func TestReturns(t *testing.T) {
	does(t, "print 1; return 2; print 3;", "1", api.OK)
	does(t, "{ if true { while true { { return 1; } } } } print 2;", "", api.OK)
	does(t, "return 1 / 0;", "", api.ErrDivide)
	for body, out := range map[string]string{
		"return a + 1; return 9;": "3", "return true; print 9;": "true", "return [a; a];": "[2 2]", "a = 7; return a;": "7", "if a == 2 { return 1; } return 2;": "1", "if a == 1 { return 1; } return 2;": "2", "": "0", "{ } a = 3;": "0", "if false { return 1; }": "0",
		"while true { a = a + 1; if a > 5 { return a; } }": "6", "{ { { return 4; } } } return 5;": "4", "var b = 5; { var a = b; { var b = a + 1; return b; } }": "6", "return g(a) + a;": "5",
	} {
		s := "func g(a) { var b = 1; { return a + b; } } func f(a) { " + body + " } func main() { var a = 8; var b = 9; print f(2); print a; print b; }"
		prints(t, s, out+" 8 9", api.OK)
	}
}

func TestPrints(t *testing.T) {
	does(t, "print 1; print true; print [2; -3]; print [0; 1]; print -9223372036854775807 - 1;", "1 true [-3 -3] [] -9223372036854775808", api.OK)
	does(t, "print p(1) + p(2);", "1 2 3", api.OK)
	does(t, "print 1; print 1 + true; print 2;", "1", api.ErrKind)
}

func TestDos(t *testing.T) {
	does(t, "p(1); p(p(2)); none(); id(true); p(true); id(p(3) + p(4));", "1 2 2 true 3 4", api.OK)
	does(t, "p(1); p(1 / 0); p(2);", "1", api.ErrDivide)
}

// P12.3: expressions.

func TestIntsAndBools(t *testing.T) {
	does(t, "print 0; print 7; print 9223372036854775807; print true; print false;", "0 7 9223372036854775807 true false", api.OK)
}

func TestUnariesAndBinaries(t *testing.T) {
	does(t, "print -5; print --5; print !true; print !!true; print -(1 - 2); print !(1 == 2);", "-5 5 false true 1 true", api.OK)
	does(t, "print 1 + 2 * 3 - 4; print 7 / 2; print -7 % 3; print 9223372036854775807 + 1;", "3 3 -1 -9223372036854775808", api.OK)
	does(t, "print 1 < 2; print 2 <= 1; print 1 == true; print [1; 2] == [1; 2]; print [1; 2] != [2; 2];", "true false false true true", api.OK)
	does(t, "print p(1) - p(2);", "1 2 -1", api.OK)
	does(t, "print p(1) + p(true);", "1 true", api.ErrKind)
	does(t, "print 1 / 0 + true;", "", api.ErrDivide)
	does(t, "print true + 1 / 0;", "", api.ErrDivide)
	does(t, "print -p(true);", "true", api.ErrKind)
	does(t, "print !p(1);", "1", api.ErrKind)
}

// operands are what may stand on a side of a sign, ahead of which p prints it: each Kind, and its edges.
var operands = []string{"0", "1", "2", "-1", "-2", "1023", "1024", "1025", "9223372036854775807", "(-9223372036854775807 - 1)", "4294967296", "true", "false", "[0; 0]", "[1; 0]", "[2; 1]", "[2; 2]", "[1024; 5]", "none()", "read()"}

func TestAllSignsOfAllOperands(t *testing.T) {
	met := map[api.Errno]int{}
	tried := func(e string) {
		s := "func p(n) { print 0; return n; } func none() { } func main() { print " + e + "; }"
		met[sweep(t, s, parsed(t, s), enough, yes).Err]++
	}
	for _, a := range operands {
		for _, sign := range []string{"-", "!", "--", "!!", "-!", "!-"} {
			tried(sign + a)
		}
		tried("len(" + a + ")")
		tried("p(" + a + ")")
		for _, b := range operands {
			for _, sign := range []string{"||", "&&", "==", "!=", "<", "<=", ">", ">=", "+", "-", "*", "/", "%"} {
				tried("p(" + a + ") " + sign + " p(" + b + ")")
			}
			tried("[p(" + a + "); p(" + b + ")]")
			tried("p(" + a + ")[p(" + b + ")]")
		}
	}
	if met[api.OK] < 1000 || met[api.ErrKind] < 1000 || met[api.ErrIndex] < 100 || met[api.ErrDivide] < 10 || met[api.ErrInput] < 10 {
		t.Error(met)
	}
}

func TestAllSetsOfAllOperands(t *testing.T) {
	met := map[api.Errno]int{}
	few := []string{"0", "1", "2", "-1", "1024", "-9223372036854775807", "true", "[0; 0]", "[2; 1]", "none()", "read()", "len(a)", "a"}
	for _, a := range []string{"0", "true", "[0; 0]", "[1; 0]", "[2; 1]", "[1024; 5]"} {
		for _, at := range few {
			for _, e := range few {
				s := "func p(n) { print 0; return n; } func none() { } func main() { var a = " + a + "; a[" + at + "] = p(" + e + "); print a; a = p(" + e + "); print a; }"
				met[sweep(t, s, parsed(t, s), enough, num(1)).Err]++
			}
		}
	}
	if met[api.OK] < 50 || met[api.ErrKind] < 100 || met[api.ErrIndex] < 100 || met[api.ErrInput] < 10 {
		t.Error(met)
	}
}

func TestTheSecondOfTwoBoolsIsReckonedOnlyIfItBearsOnThem(t *testing.T) {
	for s, out := range map[string]string{
		"p(true) && p(true)": "true true true", "p(true) && p(false)": "true false false", "p(false) && p(true)": "false false", "p(false) && p(false)": "false false",
		"p(true) || p(true)": "true true", "p(true) || p(false)": "true true", "p(false) || p(true)": "false true true", "p(false) || p(false)": "false false false",
		"false && 1 / 0": "false", "true || 1 / 0": "true", "false && 1": "false", "true || 1": "true", "true || [1; 1]": "true", "false && read()": "false", "true || none()": "true",
		"false && p(true) || p(true)": "true true", "true || p(true) && p(false)": "true", "true && p(true) || p(false)": "true true", "(false || p(false)) && p(true)": "false false", "!(true && p(false))": "false true",
	} {
		does(t, "print "+s+";", out, api.OK)
	}
	for s, out := range map[string]string{
		"p(1) && p(true)": "1", "p(1) || p(true)": "1", "p(0) && p(false)": "0", "p(0) || p(true)": "0", "p([1; 1]) && true": "[1]", "[0; 0] || p(true)": "",
		"p(true) && p(1)": "true 1", "p(false) || p(0)": "false 0", "true && [1; 1]": "", "false || none()": "", "p(false) || p(1) || p(true)": "false 1",
	} {
		does(t, "print "+s+"; print 9;", out, api.ErrKind)
	}
	does(t, "print true && 1 / 0;", "", api.ErrDivide)
	does(t, "print false || 1 / 0;", "", api.ErrDivide)
	does(t, "print 1 / 0 && 1;", "", api.ErrDivide)
	does(t, "if p(true) && p(false) || p(true) { print 1; }", "true false true 1", api.OK)
}

func TestCalls(t *testing.T) {
	does(t, "print id(5); print id(true); print id([2; 1]); print none();", "5 true [1 1] 0", api.OK)
	ends(t, "func f(a, b, c) { print a; print b; print c; return a - b - c; } func p(n) { print n; return n; } func main() { print f(p(1), p(2), p(3)); }", api.OK, "1 2 3 1 2 3 -4", 2+3*2+3*4+6+6)
	// A Param hides nothing of the one that calls, and a Var of the Block hides the Param.
	ends(t, "func f(a, b) { a = a + b; var b = a * 2; a = b; { var a = 0; b = b + a; } return a + b; } func main() { var a = 1; var b = 2; print f(b, a); print a; print b; }", api.OK, "12 1 2", 4+4+4+4+2+7+4+2+2)
	ends(t, "func f(f) { if f == 0 { return 0; } return f + f(f - 1); } func main() { var f = 3; print f(f); print f; }", api.OK, "6 3", 2+3+4*4+3*7+2+2)
	// The one that calls has its variables again, behind a Return as behind none.
	for _, end := range []string{"", "return 1;", "{ var c = 1; return c; }", "while true { var c = 1; return c; }"} {
		s := "func f(a) { var b = a; { var a = b; " + end + " } } func main() { var a = 5; { var b = 6; f(7); print a; print b; var c = f(8); { var a = f(9); } print a; } print a; }"
		prints(t, s, "5 6 5 5", api.OK)
	}
	prints(t, "func odd(n) { if n == 0 { return false; } return even(n - 1); } func even(n) { if n == 0 { return true; } return odd(n - 1); } func main() { print odd(7); print even(7); }", "true false", api.OK)
}

func TestAFaultEndsAllCalls(t *testing.T) {
	ends(t, "func f(n) { print n; if n == 0 { print 1 / n; } f(n - 1); print 9; return 1; } func main() { print f(3); print 9; }", api.ErrDivide, "3 2 1 0", 3+3*(2+4+5)+2+4+4)
	ends(t, "func f() { return read(); } func main() { print f(); print f(); print f(); }", api.ErrInput, "1 true", 3*4, num(1), yes)
}

// down tells a program whose calls are so many in one another, main's among them: each, but for main and the last one, is made by the one before, among other things.
func down(calls int, last string) string {
	return fmt.Sprintf("func f(n) { if n == 0 { %s } print -1 + 1 + f(n - 1); return n; } func g(n) { return n; } func main() { print f(%d); }", last, calls-2)
}

func TestCallsInOneAnother(t *testing.T) {
	for _, calls := range []int{2, 3, 10, 498, 499, 500, 501, 502, 600, 1000} {
		s := down(calls, "return 0;")
		o := run.Run(parsed(t, s), 1<<20)
		want := api.OK
		if calls > 500 {
			want = api.ErrStack
		}
		if o.Err != want || want == api.OK && len(o.Out) != calls-1 || want == api.ErrStack && len(o.Out) != 0 {
			t.Errorf("%d calls: %s", calls, shown(o))
		}
		check(t, s, parsed(t, s), outcome(must(trace(parsed(t, s), 1<<20))), 1<<20)
	}
}

func TestTheInnermostOfAllCalls(t *testing.T) {
	for last, c := range map[string]struct {
		most int // how many calls there may be ahead of it
		err  api.Errno
	}{
		"return 0;":                 {500, api.ErrStack},
		"return g(0);":              {499, api.ErrStack},
		"return g(g(g(0)));":        {499, api.ErrStack},
		"return g(1) + g(g(2));":    {499, api.ErrStack},
		"return g(g(0)) + h(h(0));": {498, api.ErrStack},
		// What a Call is given comes ahead of it.
		"return g(1 / 0);":     {0, api.ErrDivide},
		"return g(read());":    {0, api.ErrInput},
		"return g(g(1 / 0));":  {0, api.ErrDivide},
		"return g([1; true]);": {0, api.ErrKind},
		"f(1 / 0);":            {0, api.ErrDivide},
	} {
		for _, calls := range []int{497, 498, 499, 500, 501, 502} {
			s := down(calls, last) + " func h(n) { return g(n); }"
			n := parsed(t, s)
			want := c.err
			if c.most > 0 && calls <= c.most {
				want = api.OK
			}
			if calls > 500 {
				want = api.ErrStack
			}
			if o := run.Run(n, 1<<20); o.Err != want {
				t.Errorf("%d calls, %s: %s", calls, last, shown(o))
			}
			check(t, s, n, outcome(must(trace(n, 1<<20))), 1<<20)
		}
	}
}

func TestMainCallsItself(t *testing.T) {
	ends(t, "func main() { main(); }", api.ErrStack, "", 1000)
	ends(t, "func main() { print 1; print main(); }", api.ErrStack, strings.TrimSpace(strings.Repeat("1 ", 500)), 2000)
	ends(t, "func f() { return main(); } func main() { if read() { print 1; return f(); } print 2; return 3; }", api.OK, "1 1 2", 2*(2+2+2+2)+6, yes, yes, no)
	ends(t, "func f() { print main(); return 4; } func main() { if read() { return f(); } return 3; }", api.OK, "3", 2+2+2+4+2, yes, no)
}

func TestCallsOneBehindTheOther(t *testing.T) {
	for _, end := range []string{"", "return 1;", "while true { return 1; }"} {
		s := "func f(n) { if n > 0 { f(n - 1); } " + end + " } func main() { var i = 0; while i < 700 { f(2); i = i + f(0) * 0 + 1; } print i; }"
		if o := run.Run(parsed(t, s), 1<<20); o.Err != api.OK || value.Text(o.Out...) != "700" {
			t.Errorf("%s\n%s", s, shown(o))
		}
		check(t, s, parsed(t, s), outcome(must(trace(parsed(t, s), 1<<20))), 1<<20)
	}
}

func TestIndexes(t *testing.T) {
	does(t, "var a = [3; 1]; a[1] = 5; print a[0]; print a[1]; print a[a[0]]; print [2; 7][1]; print id(a)[1];", "1 5 5 7 5", api.OK)
	does(t, "print p([2; 3])[p(1)];", "[3 3] 1 3", api.OK)
	does(t, "print p(1)[p(2)];", "1 2", api.ErrKind)
	for e, err := range map[string]api.Errno{
		"a[0]": api.OK, "a[1]": api.OK, "a[2]": api.ErrIndex, "a[-1]": api.ErrIndex, "a[9223372036854775807]": api.ErrIndex, "a[4294967296]": api.ErrIndex, "a[true]": api.ErrKind, "a[a]": api.ErrKind,
		"b[0]": api.ErrKind, "b[9]": api.ErrKind, "b[true]": api.ErrKind, "true[0]": api.ErrKind, "[0; 0][0]": api.ErrIndex, "a[0][0]": api.ErrKind, "[1024; 1][1023]": api.OK, "[1024; 1][1024]": api.ErrIndex, "1[1 / 0]": api.ErrDivide, "(1 / 0)[true]": api.ErrDivide,
	} {
		out := ""
		if err == api.OK {
			out = "1"
		}
		does(t, "var a = [2; 1]; var b = 5; print "+e+";", out, err)
	}
}

func TestArrays(t *testing.T) {
	does(t, "print [0; 5]; print [1; 5]; print [3; -5]; print [p(1); p(2)];", "[] [5] [-5 -5 -5] 1 2 [2]", api.OK)
	does(t, "print len([1023; 1]); print len([1024; 1]); print len([1025; 1]);", "1023 1024", api.ErrIndex)
	for e, err := range map[string]api.Errno{
		"[-1; 1]": api.ErrIndex, "[1025; 1]": api.ErrIndex, "[9223372036854775807; 1]": api.ErrIndex, "[4294967296; 1]": api.ErrIndex, "[-9223372036854775807 - 1; 1]": api.ErrIndex,
		"[true; 1]": api.ErrKind, "[1; true]": api.ErrKind, "[1; [1; 1]]": api.ErrKind, "[[1; 1]; 1]": api.ErrKind, "[-1; true]": api.ErrKind, "[1025; true]": api.ErrKind, "[0; true]": api.ErrKind, "[true; 1 / 0]": api.ErrDivide, "[1 / 0; true]": api.ErrDivide,
	} {
		does(t, "print 1; print "+e+";", "1", err)
	}
}

func TestLengths(t *testing.T) {
	does(t, "print len([0; 1]); print len([7; 1]); var a = [4; 0]; print len(a) + a[0]; print len(id(a));", "0 7 4 4", api.OK)
	for _, e := range []string{"1", "true", "none()", "len([1; 1])"} {
		does(t, "print len("+e+");", "", api.ErrKind)
	}
}

func TestReads(t *testing.T) {
	does(t, "print read(); print read(); print read(); print read();", "-4 true [1 2] []", api.OK, num(-4), yes, row(1, 2), row())
	does(t, "print read() - read(); print read();", "2 9", api.OK, num(5), num(3), num(9))
	does(t, "print [read(); read()];", "[4 4]", api.OK, num(2), num(4))
	does(t, "var a = [3; 0]; a[read()] = read(); print a;", "[0 7 0]", api.OK, num(1), num(7))
	does(t, "print id(read()) * 10 + read();", "12", api.OK, num(1), num(2))
	does(t, "print 1;", "1", api.OK, num(1), num(2))
	does(t, "print read();", "", api.ErrInput)
	does(t, "print read(); print read(); print 3;", "1", api.ErrInput, num(1))
	does(t, "print read() + read();", "", api.ErrInput, yes)
	does(t, "if read() { print 1; }", "", api.ErrKind, num(1))
	does(t, "print -read();", "-9223372036854775808", api.OK, num(math.MinInt64))
	does(t, "print len(read()); print read() == read();", "1024 true", api.OK, row(make([]int64, 1024)...), row(1), row(1))
	// Lists without elements and nil ones are one.
	does(t, "print read() == read(); print read() == 3; print read(); print read() == read();", "true true false true", api.OK, row(), row([]int64{}...), api.Value{Kind: api.IntValue, Num: 3, Row: []int64{}}, api.Value{Kind: api.BoolValue, Row: []int64{}}, no, api.Value{Kind: api.BoolValue, Row: []int64{}})
}

// The Words: values stand for themselves.

func TestValuesStandForThemselves(t *testing.T) {
	for s, out := range map[string]string{
		"var a = [2; 0]; var b = a; b[0] = 1; print a; print b; a[1] = 2; print a; print b;":           "[0 0] [1 0] [0 2] [1 0]",
		"var a = [2; 0]; var b = 0; b = a; b[0] = 1; print a; print b; a[1] = 2; print a; print b;":    "[0 0] [1 0] [0 2] [1 0]",
		"var a = [1; 0]; a = a; a[0] = 3; print a;":                                                    "[3]",
		"var a = [1; 0]; { var a = a; a[0] = 1; print a; } print a;":                                   "[1] [0]",
		"var a = [1; 0]; print a; a[0] = 1; print a; a[0] = 2;":                                        "[0] [1]",
		"var a = [1; 0]; print change(a); print a;":                                                    "[9] [0]",
		"var a = [1; 0]; var b = id(a); b[0] = 1; print a; print b; a[0] = 2; print b;":                "[0] [1] [1]",
		"var a = [1; 0]; var b = a; var c = b; b[0] = 1; c[0] = 2; print a; print b; print c;":         "[0] [1] [2]",
		"var a = read(); var b = read(); a[0] = 5; print a; print b; b[1] = 6; print a; print b;":      "[5 2] [1 2] [5 2] [1 6]",
		"var i = 0; while i < 2 { var a = [2; 0]; a[i] = 1; print a; i = i + 1; }":                     "[1 0] [0 1]",
		"var i = 0; var a = [2; 0]; while i < 2 { var b = a; b[i] = 1; print b; i = i + 1; } print a;": "[1 0] [0 1] [0 0]",
		"var a = [1; 0]; print a == change(a); print change(a) == change(change(a));":                  "false true",
		"print twice([1; 1]);": "[1] [8] [1]",
	} {
		s = "func change(a) { a[0] = 9; return a; } func twice(a) { var b = a; print a; b[0] = 8; print b; return a; } func id(a) { return a; } func main() { " + s + " }"
		twin := []int64{1, 2}
		prints(t, s, out, api.OK, row(twin...), row(twin...))
	}
}
