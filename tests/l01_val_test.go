package tests

import (
	"math"
	"strings"
	"testing"

	"loop.example/g00462/impl"
)

func boolVal(n int) impl.Val    { return impl.Val{Ty: impl.TyBool, N: n} }
func intVal(n int) impl.Val     { return impl.Val{Ty: impl.TyInt, N: n} }
func textVal(s string) impl.Val { return impl.Val{Ty: impl.TyText, S: s} }

// risingVals are right values, from the least on.
func risingVals() []impl.Val {
	return []impl.Val{
		{},
		boolVal(0), boolVal(1),
		intVal(-impl.MaxNum), intVal(-impl.MaxNum + 1), intVal(-10), intVal(-9), intVal(-1),
		intVal(0), intVal(1), intVal(9), intVal(10), intVal(impl.MaxNum - 1), intVal(impl.MaxNum),
		textVal(""), textVal("\x00"), textVal("\n"), textVal(" "), textVal(" a"), textVal("!"),
		textVal("%"), textVal("%41"), textVal("'"), textVal("''"),
		textVal("-1"), textVal("0"), textVal("1"), textVal("10"), textVal("9"),
		textVal("A"), textVal("a"), textVal("aa"), textVal("ab"), textVal("b"),
		textVal("false"), textVal("null"), textVal("true"),
		textVal(strings.Repeat("z", impl.MaxStr-1)), textVal(strings.Repeat("z", impl.MaxStr)),
		textVal("~"), textVal("\x7f"), textVal("\x80"), textVal("\xc3\xa9"), textVal("\xff"),
		textVal(strings.Repeat("\xff", impl.MaxStr)),
	}
}

func wrongVals() []impl.Val {
	return []impl.Val{
		{N: 1}, {N: -1}, {S: "a"}, {N: 1, S: "a"},
		boolVal(2), boolVal(-1), boolVal(math.MaxInt),
		{Ty: impl.TyBool, S: "a"}, {Ty: impl.TyBool, N: 1, S: "true"},
		intVal(impl.MaxNum + 1), intVal(-impl.MaxNum - 1), intVal(math.MaxInt), intVal(math.MinInt),
		{Ty: impl.TyInt, S: "0"}, {Ty: impl.TyInt, N: 5, S: "5"},
		textVal(strings.Repeat("a", impl.MaxStr+1)), textVal(strings.Repeat("\x00", 300)),
		{Ty: impl.TyText, N: 1}, {Ty: impl.TyText, N: -1, S: "a"},
		{Ty: -1}, {Ty: 4}, {Ty: 4, N: 1}, {Ty: 5, S: "a"}, {Ty: math.MaxInt}, {Ty: math.MinInt},
	}
}

func TestP15ChapterTwoConstants(t *testing.T) {
	if impl.MaxNum != 1<<40-1 || impl.MaxStr != 30 {
		t.Errorf("MaxNum %d, MaxStr %d", impl.MaxNum, impl.MaxStr)
	}
	types := [4]int{impl.TyNull, impl.TyBool, impl.TyInt, impl.TyText}
	if types != [4]int{0, 1, 2, 3} {
		t.Errorf("types %v", types)
	}
}

func TestP15ValOk(t *testing.T) {
	for _, v := range risingVals() {
		if !impl.ValOk(v) {
			t.Errorf("ValOk(%+v) is false", v)
		}
	}
	for _, v := range wrongVals() {
		if impl.ValOk(v) {
			t.Errorf("ValOk(%+v) is true", v)
		}
	}
}

func TestP4ValuesHaveAnOrder(t *testing.T) {
	l := risingVals()
	for i, a := range l {
		for j, b := range l {
			if got := impl.ValLess(a, b); got != (i < j) {
				t.Errorf("ValLess(%+v, %+v) is %v", a, b, got)
			}
		}
	}
}

func TestP15ValLessOfWrongValues(t *testing.T) {
	all := append(risingVals(), wrongVals()...)
	for _, w := range wrongVals() {
		for _, v := range all {
			if impl.ValLess(w, v) || impl.ValLess(v, w) {
				t.Errorf("ValLess of %+v and %+v is true", w, v)
			}
		}
	}
}

func TestP15Cast(t *testing.T) {
	null := impl.Val{}
	thirty := strings.Repeat("7", impl.MaxStr)
	cases := []struct {
		from impl.Val
		ty   int
		to   impl.Val
	}{
		{null, impl.TyBool, null}, {null, impl.TyInt, null}, {null, impl.TyText, null},
		{boolVal(0), impl.TyBool, boolVal(0)}, {boolVal(1), impl.TyBool, boolVal(1)},
		{boolVal(0), impl.TyInt, intVal(0)}, {boolVal(1), impl.TyInt, intVal(1)},
		{boolVal(0), impl.TyText, textVal("false")}, {boolVal(1), impl.TyText, textVal("true")},
		{intVal(0), impl.TyBool, boolVal(0)}, {intVal(1), impl.TyBool, boolVal(1)},
		{intVal(-7), impl.TyInt, intVal(-7)}, {intVal(impl.MaxNum), impl.TyInt, intVal(impl.MaxNum)},
		{intVal(0), impl.TyText, textVal("0")}, {intVal(-7), impl.TyText, textVal("-7")},
		{intVal(impl.MaxNum), impl.TyText, textVal("1099511627775")},
		{intVal(-impl.MaxNum), impl.TyText, textVal("-1099511627775")},
		{textVal("true"), impl.TyBool, boolVal(1)}, {textVal("false"), impl.TyBool, boolVal(0)},
		{textVal("0"), impl.TyInt, intVal(0)}, {textVal("-12"), impl.TyInt, intVal(-12)},
		{textVal("1099511627775"), impl.TyInt, intVal(impl.MaxNum)},
		{textVal("-1099511627775"), impl.TyInt, intVal(-impl.MaxNum)},
		{textVal(""), impl.TyText, textVal("")}, {textVal("'%\n"), impl.TyText, textVal("'%\n")},
		{textVal("null"), impl.TyText, textVal("null")}, {textVal(thirty), impl.TyText, textVal(thirty)},
	}
	for _, c := range cases {
		if got, ok := impl.Cast(c.from, c.ty); !ok || got != c.to {
			t.Errorf("Cast(%+v, %d) is %+v, %v; not %+v", c.from, c.ty, got, ok, c.to)
		}
	}
}

func sayNoCast(t *testing.T, v impl.Val, ty int) {
	t.Helper()
	if got, ok := impl.Cast(v, ty); ok || got != (impl.Val{}) {
		t.Errorf("Cast(%+v, %d) is %+v, %v", v, ty, got, ok)
	}
}

func TestP15CastThatCannotBe(t *testing.T) {
	for _, n := range []int{2, -1, impl.MaxNum, -impl.MaxNum} {
		sayNoCast(t, intVal(n), impl.TyBool)
	}
	for _, s := range []string{"", "0", "1", "null", "True", "TRUE", " true", "true ", "'true'", "tru", "falsee"} {
		sayNoCast(t, textVal(s), impl.TyBool)
	}
	noNums := append(textsOfNoNum(), "'1'", "true", "false", "null", strings.Repeat("7", impl.MaxStr))
	for _, s := range noNums {
		sayNoCast(t, textVal(s), impl.TyInt)
	}
}

func TestP15CastOfWrongArguments(t *testing.T) {
	for _, v := range risingVals() {
		for _, ty := range []int{impl.TyNull, -1, 4, math.MaxInt, math.MinInt} {
			sayNoCast(t, v, ty)
		}
	}
	for _, v := range wrongVals() {
		for ty := -1; ty <= 4; ty++ {
			sayNoCast(t, v, ty)
		}
	}
}

func TestP15CastAnswersTheType(t *testing.T) {
	for _, v := range risingVals() {
		for ty := impl.TyBool; ty <= impl.TyText; ty++ {
			got, ok := impl.Cast(v, ty)
			if ok && (!impl.ValOk(got) || got.Ty != ty && got != v) {
				t.Errorf("Cast(%+v, %d) is %+v", v, ty, got)
			}
			if v.Ty == ty && (!ok || got != v) {
				t.Errorf("Cast(%+v, %d) doesn't stay: %+v, %v", v, ty, got, ok)
			}
		}
	}
}

// textsOfNoNum are texts of at most MaxStr bytes that no number has, nor any other value.
func textsOfNoNum() []string {
	return []string{
		"", "-", "+", "--1", "+1", "+0", "-0", "00", "01", "07", "-01", "-00", " 1", "1 ", "1\n", "1 2",
		"1.", "1.0", "1e3", "0x10", "1_000", "a", "1a", "a1", "\x00", "1\x00", "\xd9\xa1",
		"1099511627776", "-1099511627776", "9999999999999", "01099511627775",
		"9223372036854775807", "-9223372036854775808", "18446744073709551617", "99999999999999999999999999999",
	}
}

func TestP15NumText(t *testing.T) {
	cases := []struct {
		n int
		s string
	}{
		{0, "0"}, {1, "1"}, {-1, "-1"}, {9, "9"}, {10, "10"}, {-10, "-10"}, {100, "100"}, {1234567890, "1234567890"},
		{impl.MaxNum - 1, "1099511627774"}, {impl.MaxNum, "1099511627775"}, {-impl.MaxNum, "-1099511627775"},
		{impl.MaxNum + 1, ""}, {-impl.MaxNum - 1, ""}, {math.MaxInt, ""}, {math.MinInt, ""},
	}
	for _, c := range cases {
		if got := impl.NumText(c.n); got != c.s {
			t.Errorf("NumText(%d) is %q, not %q", c.n, got, c.s)
		}
	}
}

func TestP15TextNumOfNoNumber(t *testing.T) {
	more := []string{"'1'", strings.Repeat("0", 100), strings.Repeat("9", 1000), "-" + strings.Repeat("1", 1000)}
	for _, s := range append(textsOfNoNum(), more...) {
		if n, ok := impl.TextNum(s); ok || n != 0 {
			t.Errorf("TextNum(%q) is %d, %v", s, n, ok)
		}
	}
}

func TestP4NumbersAreReadAsWritten(t *testing.T) {
	var l []int
	for n := 0; n <= 2000; n++ {
		l = append(l, n, -n, impl.MaxNum-n, n-impl.MaxNum)
	}
	for n := 1; n <= impl.MaxNum; n *= 3 {
		l = append(l, n, -n)
	}
	for _, n := range l {
		if got, ok := impl.TextNum(impl.NumText(n)); !ok || got != n {
			t.Errorf("%d is written %q and read %d, %v", n, impl.NumText(n), got, ok)
		}
	}
}

func TestP15ValText(t *testing.T) {
	cases := []struct {
		v impl.Val
		s string
	}{
		{impl.Val{}, "null"}, {boolVal(0), "false"}, {boolVal(1), "true"},
		{intVal(0), "0"}, {intVal(-3), "-3"}, {intVal(impl.MaxNum), "1099511627775"},
		{textVal(""), "''"}, {textVal("null"), "'null'"}, {textVal("5"), "'5'"},
		{textVal(" !"), "'%20!'"}, {textVal("~\x7f"), "'~%7f'"}, {textVal("'"), "'%27'"}, {textVal("%"), "'%25'"},
		{textVal("it's 5%\n"), "'it%27s%205%25%0a'"}, {textVal("\x00\xab\xff"), "'%00%ab%ff'"},
		{textVal("\xc3\xa9"), "'%c3%a9'"}, {textVal("\"\\(=|#"), "'\"\\(=|#'"},
		{textVal(strings.Repeat("\xfe", impl.MaxStr)), "'" + strings.Repeat("%fe", impl.MaxStr) + "'"},
	}
	for _, c := range cases {
		if got := impl.ValText(c.v); got != c.s {
			t.Errorf("ValText(%+v) is %q, not %q", c.v, got, c.s)
		}
	}
	for _, v := range wrongVals() {
		if got := impl.ValText(v); got != "" {
			t.Errorf("ValText(%+v) is %q", v, got)
		}
	}
}

func TestP4ValuesAreReadAsWritten(t *testing.T) {
	l := risingVals()
	for c := 0; c < 256; c++ {
		one := string([]byte{byte(c)})
		l = append(l, textVal(one), textVal("a"+one+"b"), textVal(strings.Repeat(one, impl.MaxStr)))
	}
	for _, v := range l {
		if got, ok := impl.TextVal(impl.ValText(v)); !ok || got != v {
			t.Errorf("%+v is written %q and read %+v, %v", v, impl.ValText(v), got, ok)
		}
	}
}

func sayNoVal(t *testing.T, s string) {
	t.Helper()
	if v, ok := impl.TextVal(s); ok || v != (impl.Val{}) {
		t.Errorf("TextVal(%q) is %+v, %v", s, v, ok)
	}
}

func TestP15TextValOfNoValue(t *testing.T) {
	words := []string{"Null", "NULL", "null ", " null", "nul", "nulll", "True", "true ", "falsee", "a", "word", "=5"}
	quotes := []string{"'", "'''", "''''", "'a", "a'", "'a'b", "'a'b'", "'a' ", " 'a'", "\"a\"", "''a", "'a''"}
	bytes := []string{"' '", "'a b'", "'\x7f'", "'\n'", "'\x00'", "'\x80'", "'\xc3\xa9'", "'\xff'"}
	percents := []string{"'%'", "'%2'", "'%0'", "'%%'", "'%25", "'%0A'", "'%fF'", "'%g0'", "'%0g'", "'%-1'", "'% 1'", "'%27%'", "'%27%2'"}
	needless := []string{"'%41'", "'%61'", "'%21'", "'%7e'", "'%26'", "'%24'", "'%28'"}
	long := []string{
		"'" + strings.Repeat("a", impl.MaxStr+1) + "'",
		"'" + strings.Repeat("%00", impl.MaxStr+1) + "'",
		"'" + strings.Repeat("a", 5000) + "'",
	}
	for _, l := range [][]string{words, quotes, bytes, percents, needless, long, textsOfNoNum()} {
		for _, s := range l {
			sayNoVal(t, s)
		}
	}
}

// Of all that may stand behind a '%' just one text each of the bytes that need it is read.
func TestP15TextValOfEachPercent(t *testing.T) {
	digits := "0123456789abcdef"
	for c := 0; c < 256; c++ {
		for d := 0; d < 256; d++ {
			s := "'%" + string([]byte{byte(c), byte(d)}) + "'"
			high, low := strings.IndexByte(digits, byte(c)), strings.IndexByte(digits, byte(d))
			b := high*16 + low
			needs := high >= 0 && low >= 0 && (b < 33 || b > 126 || b == 39 || b == 37)
			v, ok := impl.TextVal(s)
			if ok != needs || ok && v != textVal(string([]byte{byte(b)})) {
				t.Errorf("TextVal(%q) is %+v, %v", s, v, ok)
			}
		}
	}
}

// What is read from a short text, whatever it is, is a right value with just that text.
func TestP4OneTextAValue(t *testing.T) {
	signs := "'%0127af- +t"
	seen := map[impl.Val]string{}
	var try func(s string, more int)
	try = func(s string, more int) {
		v, ok := impl.TextVal(s)
		before, was := seen[v]
		switch {
		case !ok && v != (impl.Val{}):
			t.Errorf("TextVal(%q) is %+v beside a false", s, v)
		case ok && (!impl.ValOk(v) || impl.ValText(v) != s || was):
			t.Errorf("TextVal(%q) is %+v, which is written %q and was read from %q", s, v, impl.ValText(v), before)
		case ok:
			seen[v] = s
		}
		for i := 0; i < len(signs) && more > 0; i++ {
			try(s+signs[i:i+1], more-1)
		}
	}
	try("", 5)
	if len(seen) < 1000 {
		t.Errorf("only %d texts were read", len(seen))
	}
}

func TestP15WordOk(t *testing.T) {
	for _, s := range []string{"a", "z", "id", "abcdefgh", "stuvwxyz", "ijklmnop", "qr", "zzzzzzzz"} {
		if !impl.WordOk(s) {
			t.Errorf("WordOk(%q) is false", s)
		}
	}
	wrong := []string{"", "abcdefghi", strings.Repeat("a", 100), "Id", "iD", "ID", "a1", "1a", "a b", " a", "a ", "a_b", "a-b", "a\n", "\x00", "'a'", "\xc3\xa9", "a\xff"}
	for _, s := range wrong {
		if impl.WordOk(s) {
			t.Errorf("WordOk(%q) is true", s)
		}
	}
	for c := 0; c < 256; c++ {
		letter := c >= 'a' && c <= 'z'
		one := string([]byte{byte(c)})
		for _, s := range []string{one, "a" + one, one + "a", "abcdefg" + one} {
			if impl.WordOk(s) != letter {
				t.Errorf("WordOk(%q) is %v", s, !letter)
			}
		}
	}
}
