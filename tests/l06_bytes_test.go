package tests

import (
	"bytes"
	"encoding/binary"
	"math"
	"math/big"
	"slices"
	"strconv"
	"strings"
	"testing"

	"loop.example/g00462/impl"
)

// The bytes of chapter 7, told a second time and in another way than the
// program does it: right things are written as strings put together ..
func oneByte(n int) string { return string([]byte{byte(n)}) }

func flagByte(b bool) string {
	if b {
		return "\x01"
	}
	return "\x00"
}

func wordForms(words ...string) string {
	s := ""
	for _, w := range words {
		s += oneByte(len(w)) + w
	}
	return s
}

func valForm(v impl.Val) string {
	switch v.Ty {
	case impl.TyBool:
		return "\x01" + oneByte(v.N)
	case impl.TyInt:
		far := binary.BigEndian.AppendUint64(nil, uint64(max(v.N, -v.N)))
		return "\x02" + flagByte(v.N < 0) + string(far[2:])
	case impl.TyText:
		return "\x03" + wordForms(v.S)
	}
	return "\x00"
}

func rowForm(l []impl.Val) string {
	s := oneByte(len(l))
	for _, v := range l {
		s += valForm(v)
	}
	return s
}

func stmtBytesForm(x impl.Stmt) string {
	s := "S" + oneByte(x.Kind) + wordForms(x.Table) + rowForm(x.Key) + rowForm(x.Row.Vals)
	if x.Kind != impl.StDdl {
		return s
	}
	d := x.Ddl
	s += oneByte(d.Kind) + oneByte(len(d.Cols))
	for _, c := range d.Cols {
		s += wordForms(c.Name) + oneByte(c.Ty) + flagByte(c.Not) + flagByte(c.Has) + valForm(c.Def)
	}
	return s + oneByte(len(d.Keys)) + wordForms(d.Keys...) + wordForms(d.Name) + wordForms(d.To)
}

// .. and bytes are read by an eater, which is wrong from the first thing on
// that can't stand there.
type eater struct {
	rest  string
	wrong bool
}

func (e *eater) some(n int) string {
	if n > len(e.rest) {
		e.wrong = true
	}
	if e.wrong {
		return strings.Repeat("\x00", n)
	}
	s := e.rest[:n]
	e.rest = e.rest[n:]
	return s
}

func (e *eater) upTo(most int) int {
	n := int(e.some(1)[0])
	if n > most {
		e.wrong = true
	}
	if e.wrong {
		return 0
	}
	return n
}

func (e *eater) word() string { return e.some(e.upTo(8)) }

func (e *eater) val() impl.Val {
	switch e.upTo(3) {
	case 1:
		return boolVal(e.upTo(1))
	case 2:
		sign := 1 - 2*e.upTo(1)
		n := int(binary.BigEndian.Uint64([]byte("\x00\x00" + e.some(6))))
		e.wrong = e.wrong || sign < 0 && n == 0
		return intVal(sign * n)
	case 3:
		return textVal(e.some(e.upTo(30)))
	}
	return impl.Val{}
}

func (e *eater) vals() []impl.Val {
	var l []impl.Val
	for n := e.upTo(8); n > 0; n-- {
		l = append(l, e.val())
	}
	return l
}

func (e *eater) change(table string) impl.Ddl {
	d := impl.Ddl{Table: table}
	d.Kind = e.upTo(5)
	for n := e.upTo(8); n > 0; n-- {
		name, ty := e.word(), e.upTo(3)
		not, has := e.upTo(1) == 1, e.upTo(1) == 1
		d.Cols = append(d.Cols, impl.Col{Name: name, Ty: ty, Not: not, Has: has, Def: e.val()})
	}
	for n := e.upTo(8); n > 0; n-- {
		d.Keys = append(d.Keys, e.word())
	}
	d.Name = e.word()
	d.To = e.word()
	return d
}

func valsIn(s string) ([]impl.Val, bool) {
	e := &eater{rest: s}
	l := e.vals()
	for _, v := range l {
		e.wrong = e.wrong || !impl.ValOk(v)
	}
	return l, !e.wrong && e.rest == ""
}

func stmtIn(s string) (impl.Stmt, bool) {
	e := &eater{rest: s}
	first := e.some(1)
	x := impl.Stmt{Kind: e.upTo(5), Table: e.word()}
	x.Key = e.vals()
	x.Row.Vals = e.vals()
	if x.Kind == impl.StDdl {
		x.Ddl = e.change(x.Table)
	}
	return x, first == "S" && !e.wrong && e.rest == "" && impl.StmtOk(x)
}

// roomyBytes has memory behind it that an append would write into.
func roomyBytes(s string) []byte { return roomy([]byte(s)) }

func bytesList(name string, b []byte) []list {
	return []list{listOf(name, b, 0xa5, func(c byte) string { return strconv.Itoa(int(c)) })}
}

// sayWritten asks that the answer is these bytes and true.
func sayWritten(t *testing.T, what string, got []byte, ok bool, want string) {
	t.Helper()
	if !ok || string(got) != want {
		t.Errorf("%s is %q, %v; not %q", what, got, ok, want)
	}
}

func sayNotWritten(t *testing.T, what string, got []byte, ok bool) {
	t.Helper()
	if ok || len(got) != 0 {
		t.Errorf("%s is %q, %v", what, got, ok)
	}
}

func sayPut(t *testing.T, b string, n int, size int, want string) {
	t.Helper()
	got, ok := impl.PutNum(roomyBytes(b), n, size)
	sayWritten(t, "PutNum of "+strconv.Quote(b)+", "+strconv.Itoa(n)+", "+strconv.Itoa(size), got, ok, b+want)
}

func sayNotPut(t *testing.T, b []byte, n int, size int) {
	t.Helper()
	got, ok := impl.PutNum(b, n, size)
	sayNotWritten(t, "PutNum of "+strconv.Itoa(n)+", "+strconv.Itoa(size), got, ok)
}

// wrongSizes are sizes that no number may have.
func wrongSizes() []int { return []int{0, -1, -6, 7, 8, 9, 64, math.MaxInt, math.MinInt} }

func TestP15PutNum(t *testing.T) {
	for _, b := range []string{"", "\x07", "abc", strings.Repeat("\xff", 100)} {
		sayPut(t, b, 0, 1, "\x00")
		sayPut(t, b, 255, 1, "\xff")
		sayPut(t, b, 258, 2, "\x01\x02")
		sayPut(t, b, 65535, 2, "\xff\xff")
		sayPut(t, b, 256, 2, "\x01\x00")
		sayPut(t, b, 1, 3, "\x00\x00\x01")
		sayPut(t, b, 0x010203, 3, "\x01\x02\x03")
		sayPut(t, b, 0x01020304, 4, "\x01\x02\x03\x04")
		sayPut(t, b, 0x0102030405, 5, "\x01\x02\x03\x04\x05")
		sayPut(t, b, 0x010203040506, 6, "\x01\x02\x03\x04\x05\x06")
		sayPut(t, b, 0, 6, "\x00\x00\x00\x00\x00\x00")
		sayPut(t, b, impl.MaxNum, 5, "\xff\xff\xff\xff\xff")
		sayPut(t, b, impl.MaxNum+1, 6, "\x01\x00\x00\x00\x00\x00")
		sayPut(t, b, 1<<48-1, 6, "\xff\xff\xff\xff\xff\xff")
	}
	got, ok := impl.PutNum(nil, 5, 2)
	sayWritten(t, "PutNum of nil", got, ok, "\x00\x05")
}

func TestP15PutNumOfWrongArguments(t *testing.T) {
	for _, b := range [][]byte{nil, {}, {7}, roomyBytes("abc")} {
		for size := 1; size <= 6; size++ {
			most := 1 << (8 * size)
			for _, n := range []int{-1, -2, -255, -256, most, most + 1, 2*most - 1, -most, -most + 1, math.MaxInt, math.MinInt} {
				sayNotPut(t, b, n, size)
			}
		}
		for _, size := range wrongSizes() {
			for _, n := range []int{0, 1, 255, 1 << 48, -1, math.MaxInt, math.MinInt} {
				sayNotPut(t, b, n, size)
			}
		}
	}
}

func sayGot(t *testing.T, b string, at int, size int, want int, found bool) {
	t.Helper()
	if got, ok := impl.GetNum([]byte(b), at, size); got != want || ok != found {
		t.Errorf("GetNum(%q, %d, %d) is %d, %v", b, at, size, got, ok)
	}
}

func TestP15GetNum(t *testing.T) {
	b := "\x01\x02\x03\x04\x05\x06\xff"
	sayGot(t, b, 0, 1, 1, true)
	sayGot(t, b, 6, 1, 255, true)
	sayGot(t, b, 0, 2, 0x0102, true)
	sayGot(t, b, 5, 2, 0x06ff, true)
	sayGot(t, b, 1, 3, 0x020304, true)
	sayGot(t, b, 3, 4, 0x040506ff, true)
	sayGot(t, b, 2, 5, 0x03040506ff, true)
	sayGot(t, b, 0, 6, 0x010203040506, true)
	sayGot(t, b, 1, 6, 0x0203040506ff, true)
	sayGot(t, "\xff\xff\xff\xff\xff\xff", 0, 6, 1<<48-1, true)
	sayGot(t, "\x80\x00\x00\x00\x00\x00", 0, 6, 1<<47, true)
	sayGot(t, "\x00\x00\x00", 0, 3, 0, true)
	for at := 7; at < 20; at++ {
		sayGot(t, b, at, 1, 0, false)
	}
	for size := 1; size <= 6; size++ {
		for at := -8; at < 9; at++ {
			_, ok := impl.GetNum([]byte(b), at, size)
			if ok != (at >= 0 && at+size <= len(b)) {
				t.Errorf("GetNum(%q, %d, %d) says %v", b, at, size, ok)
			}
		}
		for _, at := range []int{-1, -6, math.MaxInt, math.MaxInt - 1, math.MaxInt - size, math.MaxInt - size + 1, math.MinInt, math.MinInt + size} {
			sayGot(t, b, at, size, 0, false)
			sayGot(t, "", at, size, 0, false)
		}
		sayGot(t, "", 0, size, 0, false)
	}
	for _, size := range wrongSizes() {
		for _, at := range []int{0, 1, 3, 7, -1, -7, math.MaxInt, math.MinInt} {
			sayGot(t, b, at, size, 0, false)
			sayGot(t, strings.Repeat("a", 100), at, size, 0, false)
		}
	}
}

// TestP15GetNumStaysWithinTheList has memory behind the list, which is none of it.
func TestP15GetNumStaysWithinTheList(t *testing.T) {
	whole := []byte{1, 2, 3, 4}
	if got, ok := impl.GetNum(whole[:2], 1, 2); ok || got != 0 {
		t.Errorf("GetNum reads behind the list: %d, %v", got, ok)
	}
	if _, ok := impl.ReadVals([]byte("\x01\x03\x02abx")[:4]); ok {
		t.Error("ReadVals reads behind the list")
	}
}

func TestP4NumbersAsBytesAreReadAsWritten(t *testing.T) {
	for size := 1; size <= 6; size++ {
		most := 1<<(8*size) - 1
		nums := []int{0, 1, 2, 127, 128, 254, 255, most, most - 1, most / 2, most/2 + 1, most / 255, most / 3, most / 7}
		b := []byte("ab")
		for i, n := range nums {
			next, ok := impl.PutNum(b, n, size)
			if !ok || len(next) != len(b)+size || !bytes.HasPrefix(next, b) {
				t.Fatalf("PutNum(%q, %d, %d) is %q, %v", b, n, size, next, ok)
			}
			b = next
			for j, was := range nums[:i+1] {
				sayGot(t, string(b), 2+j*size, size, was, true)
			}
		}
		for _, s := range []string{"\x00\x00\x00\x00\x00\x00", "\xff\x00\xff\x00\xff\x00", "abcdef", "\x00\x00\x00\x00\x00\x01", "\x80\x80\x80\x80\x80\x80"} {
			n, ok := impl.GetNum([]byte(s), 0, size)
			again, also := impl.PutNum(nil, n, size)
			if !ok || !also || string(again) != s[:size] {
				t.Errorf("the number of %q is written as %q", s[:size], again)
			}
		}
	}
}

func TestP15ValBytes(t *testing.T) {
	long := strings.Repeat("\xff", impl.MaxStr)
	for _, c := range []struct {
		v    impl.Val
		want string
	}{
		{impl.Val{}, "\x00"}, {boolVal(0), "\x01\x00"}, {boolVal(1), "\x01\x01"},
		{intVal(0), "\x02\x00\x00\x00\x00\x00\x00\x00"}, {intVal(1), "\x02\x00\x00\x00\x00\x00\x00\x01"}, {intVal(-1), "\x02\x01\x00\x00\x00\x00\x00\x01"},
		{intVal(258), "\x02\x00\x00\x00\x00\x00\x01\x02"}, {intVal(-258), "\x02\x01\x00\x00\x00\x00\x01\x02"}, {intVal(0x0102030405), "\x02\x00\x00\x01\x02\x03\x04\x05"},
		{intVal(impl.MaxNum), "\x02\x00\x00\xff\xff\xff\xff\xff"}, {intVal(-impl.MaxNum), "\x02\x01\x00\xff\xff\xff\xff\xff"},
		{textVal(""), "\x03\x00"}, {textVal("ab"), "\x03\x02ab"}, {textVal("'% \n\x00\xff"), "\x03\x06'% \n\x00\xff"}, {textVal(long), "\x03\x1e" + long},
	} {
		got, ok := impl.ValBytes(c.v)
		sayWritten(t, "ValBytes of "+showOf(c.v), got, ok, c.want)
	}
	for _, v := range risingVals() {
		got, ok := impl.ValBytes(v)
		sayWritten(t, "ValBytes of "+showOf(v), got, ok, valForm(v))
	}
	for _, v := range wrongVals() {
		got, ok := impl.ValBytes(v)
		sayNotWritten(t, "ValBytes of "+showOf(v), got, ok)
	}
}

func TestP15RowBytes(t *testing.T) {
	for _, c := range []struct {
		l    []impl.Val
		want string
	}{
		{nil, "\x00"}, {[]impl.Val{}, "\x00"}, {keyOf(impl.Val{}), "\x01\x00"}, {keyOf(impl.Val{}, boolVal(1)), "\x02\x00\x01\x01"},
		{keyOf(textVal("ab"), intVal(-2), textVal("")), "\x03\x03\x02ab\x02\x01\x00\x00\x00\x00\x00\x02\x03\x00"},
		{valsOf(boolVal(0), impl.MaxCols), "\x08" + strings.Repeat("\x01\x00", 8)},
	} {
		got, ok := impl.RowBytes(c.l)
		sayWritten(t, "RowBytes of "+showOf(c.l), got, ok, c.want)
	}
	for n := impl.MaxCols + 1; n < 300; n++ {
		got, ok := impl.RowBytes(valsOf(intVal(1), n))
		sayNotWritten(t, "RowBytes of "+strconv.Itoa(n)+" values", got, ok)
	}
	for _, v := range wrongVals() {
		for n := 1; n <= impl.MaxCols; n++ {
			for at := range n {
				l := valsOf(textVal("a"), n)
				l[at] = v
				got, ok := impl.RowBytes(l)
				sayNotWritten(t, "RowBytes of "+showOf(l), got, ok)
			}
		}
	}
}

func TestP15WordBytes(t *testing.T) {
	for s, want := range map[string]string{"": "\x00", "a": "\x01a", "id": "\x02id", "zzzzzzz": "\x07zzzzzzz", "abcdefgh": "\x08abcdefgh"} {
		got, ok := impl.WordBytes(s)
		sayWritten(t, "WordBytes of "+s, got, ok, want)
	}
	for _, s := range append(wrongWords(), "Id", " ", "\x00", "a\x00", "`", "{", "\xff", "idabcdefghi", strings.Repeat("a", 255), strings.Repeat("a", 256), strings.Repeat("a", 257)) {
		if s != "" {
			got, ok := impl.WordBytes(s)
			sayNotWritten(t, "WordBytes of "+strconv.Quote(s), got, ok)
		}
	}
}

// sayStmtBytes asks that the statement has these bytes and is read from them.
func sayStmtBytes(t *testing.T, x impl.Stmt, want string) {
	t.Helper()
	got, ok := impl.StmtBytes(x)
	sayWritten(t, "StmtBytes of "+showOf(x), got, ok, want)
	if y, ok := impl.ReadStmt([]byte(want)); !ok || !same(y, x) {
		t.Errorf("%q is read as %+v, %v; not %+v", want, y, ok, x)
	}
}

func TestP15StmtBytesOfRows(t *testing.T) {
	five, minus := "\x02\x00\x00\x00\x00\x00\x00\x05", "\x02\x01\x00\x00\x00\x00\x00\x07"
	sayStmtBytes(t, insert("t", rowOf(intVal(5), impl.Val{}, boolVal(1))), "S\x01\x01t\x00\x03"+five+"\x00\x01\x01")
	sayStmtBytes(t, insert("abcdefgh", rowOf(textVal("x y"))), "S\x01\x08abcdefgh\x00\x01\x03\x03x y")
	sayStmtBytes(t, insert("t", rowOf(valsOf(impl.Val{}, impl.MaxCols)...)), "S\x01\x01t\x00\x08\x00\x00\x00\x00\x00\x00\x00\x00")
	sayStmtBytes(t, update("t", intKey(5), rowOf(intVal(-7), textVal(""))), "S\x02\x01t\x01"+five+"\x02"+minus+"\x03\x00")
	sayStmtBytes(t, update("to", keyOf(boolVal(0), textVal("k")), rowOf(impl.Val{})), "S\x02\x02to\x02\x01\x00\x03\x01k\x01\x00")
	sayStmtBytes(t, update("t", valsOf(intVal(5), 8), rowOf(valsOf(intVal(-7), 8)...)), "S\x02\x01t\x08"+strings.Repeat(five, 8)+"\x08"+strings.Repeat(minus, 8))
	sayStmtBytes(t, remove("t", intKey(-7)), "S\x03\x01t\x01"+minus+"\x00")
	sayStmtBytes(t, remove("t", keyOf(textVal("a"), intVal(5))), "S\x03\x01t\x02\x03\x01a"+five+"\x00")
	sayStmtBytes(t, empty("t"), "S\x04\x01t\x00\x00")
	sayStmtBytes(t, empty("clear"), "S\x04\x05clear\x00\x00")
}

func TestP15StmtBytesOfChanges(t *testing.T) {
	head := "S\x05\x01t\x00\x00"
	sayStmtBytes(t, change(drop("t")), head+"\x02\x00\x00\x00\x00")
	sayStmtBytes(t, change(outOf("t", "xy")), head+"\x04\x00\x00\x02xy\x00")
	sayStmtBytes(t, change(rename("t", "x", "abcdefgh")), head+"\x05\x00\x00\x01x\x08abcdefgh")
	sayStmtBytes(t, change(create(tableOf("t", "k", "k"))), head+"\x01\x01\x01k\x02\x01\x00\x00\x01\x01k\x00\x00")
	two := head + "\x01\x03\x02ka\x02\x01\x00\x00\x01x\x03\x00\x00\x00\x02kb\x02\x01\x00\x00\x02\x02ka\x02kb\x00\x00"
	sayStmtBytes(t, change(create(tableOf("t", "ka x kb", "ka kb"))), two)
	eight, full := "ka kb kc kd ke kf kg kh", head+"\x01\x08"
	for _, name := range strings.Fields(eight) {
		full += "\x02" + name + "\x02\x01\x00\x00"
	}
	full += "\x08\x02" + strings.ReplaceAll(eight, " ", "\x02") + "\x00\x00"
	sayStmtBytes(t, change(create(tableOf("t", eight, eight))), full)
	for _, c := range []struct {
		col  impl.Col
		want string
	}{
		{impl.Col{Name: "n", Ty: impl.TyBool}, "\x01n\x01\x00\x00\x00"}, {impl.Col{Name: "n", Ty: impl.TyInt}, "\x01n\x02\x00\x00\x00"}, {freeCol("n"), "\x01n\x03\x00\x00\x00"},
		{impl.Col{Name: "n", Ty: impl.TyBool, Has: true}, "\x01n\x01\x00\x01\x00"}, {defCol("n", false, impl.Val{}), "\x01n\x02\x00\x01\x00"},
		{impl.Col{Name: "n", Ty: impl.TyBool, Has: true, Def: boolVal(1)}, "\x01n\x01\x00\x01\x01\x01"}, {impl.Col{Name: "n", Ty: impl.TyBool, Not: true, Has: true, Def: boolVal(0)}, "\x01n\x01\x01\x01\x01\x00"},
		{defCol("n", true, intVal(-2)), "\x01n\x02\x01\x01\x02\x01\x00\x00\x00\x00\x00\x02"}, {impl.Col{Name: "n", Ty: impl.TyText, Not: true, Has: true, Def: textVal("a")}, "\x01n\x03\x01\x01\x03\x01a"},
		{impl.Col{Name: "abcdefgh", Ty: impl.TyText, Has: true, Def: textVal("")}, "\x08abcdefgh\x03\x00\x01\x03\x00"},
	} {
		sayStmtBytes(t, change(add("t", c.col)), head+"\x03\x01"+c.want+"\x00\x00\x00")
	}
	for ty := impl.TyBool; ty <= impl.TyText; ty++ {
		key := impl.Col{Name: "n", Ty: ty, Not: true}
		d := impl.Ddl{Kind: impl.DdlCreate, Table: "t", Cols: []impl.Col{key}, Keys: []string{"n"}}
		sayStmtBytes(t, change(d), head+"\x01\x01\x01n"+oneByte(ty)+"\x01\x00\x00\x01\x01n\x00\x00")
	}
}

func TestP15WhatIsNotRightHasNoBytes(t *testing.T) {
	for _, s := range wrongStmts() {
		got, ok := impl.StmtBytes(s)
		sayNotWritten(t, "StmtBytes of "+showOf(s), got, ok)
	}
}

func TestP4EachStatementHasOneRowOfBytes(t *testing.T) {
	was := map[string]impl.Stmt{}
	for _, s := range rightStmts() {
		sayStmtBytes(t, s, stmtBytesForm(s))
		b, _ := impl.StmtBytes(s)
		if other, found := was[string(b)]; found && !same(other, s) {
			t.Errorf("%q are the bytes of %+v and of %+v", b, other, s)
		}
		was[string(b)] = s
	}
	for _, v := range risingVals() {
		for _, s := range []impl.Stmt{insert("t", rowOf(v, intVal(1), v)), remove("t", keyOf(intVal(1), v)), update("t", keyOf(v), rowOf(v))} {
			sayStmtBytes(t, s, stmtBytesForm(s))
		}
		if v != (impl.Val{}) {
			s := change(add("t", impl.Col{Name: "n", Ty: v.Ty, Not: true, Has: true, Def: v}))
			sayStmtBytes(t, s, stmtBytesForm(s))
		}
	}
	for _, c := range rightCols() {
		s := change(impl.Ddl{Kind: impl.DdlCreate, Table: "t", Cols: []impl.Col{keyCol("kk"), c}, Keys: []string{"kk"}})
		sayStmtBytes(t, s, stmtBytesForm(s))
	}
}

func sayVals(t *testing.T, l []impl.Val, want string) {
	t.Helper()
	b, ok := impl.RowBytes(l)
	sayWritten(t, "RowBytes of "+showOf(l), b, ok, want)
	if got, ok := impl.ReadVals([]byte(want)); !ok || !slices.Equal(got, l) {
		t.Errorf("%q is read as %+v, %v; not %+v", want, got, ok, l)
	}
}

func TestP4ValuesAsBytesAreReadAsWritten(t *testing.T) {
	sayVals(t, nil, "\x00")
	all := risingVals()
	for i, v := range all {
		sayVals(t, keyOf(v), "\x01"+valForm(v))
		for n := 2; n <= impl.MaxCols; n++ {
			sayVals(t, valsOf(v, n), oneByte(n)+strings.Repeat(valForm(v), n))
			l := keyOf(slices.Concat(all, all)[i : i+n]...)
			sayVals(t, l, rowForm(l))
		}
	}
}

func sayNoVals(t *testing.T, s string) {
	t.Helper()
	if got, ok := impl.ReadVals([]byte(s)); ok || len(got) != 0 {
		t.Errorf("%q is read as %+v, %v", s, got, ok)
	}
}

func TestP4BytesOfNoValuesAreNotRead(t *testing.T) {
	if got, ok := impl.ReadVals(nil); ok || len(got) != 0 {
		t.Errorf("no bytes are read as %+v, %v", got, ok)
	}
	five, far := "\x02\x00\x00\x00\x00\x00\x00\x05", "\xff\xff\xff\xff\xff\xff"
	for _, s := range []string{
		"", "\x00\x00", "\x00\x01\x00", "\x01", "\x01\x00\x00", "\x02\x00", "\x01\x04", "\x01\x04\x00", "\x01\xff", "\xff", "0", "a", "S",
		"\x01\x01", "\x01\x01\x02", "\x01\x01\xff", "\x01\x01\x01\x01", "\x01\x01\x00\x00", "\x02\x01\x01\x01", "\x01\x02", "\x01\x02\x00", "\x01" + five[:7], "\x01" + five + "\x00",
		"\x01" + five + five, "\x01\x02\x01\x00\x00\x00\x00\x00\x00", "\x01\x02\x02\x00\x00\x00\x00\x00\x05", "\x01\x02\xff\x00\x00\x00\x00\x00\x05", "\x01\x02\x02\x00\x00\x00\x00\x00\x00",
		"\x01\x02\x00\x01\x00\x00\x00\x00\x00", "\x01\x02\x01\x01\x00\x00\x00\x00\x00", "\x01\x02\x00" + far, "\x01\x02\x01" + far, "\x01\x02\x00\x80\x00\x00\x00\x00\x00",
		"\x01\x03", "\x01\x03\x01", "\x01\x03\x02a", "\x01\x03\x01ab", "\x01\x03\x00a", "\x01\x03\x00\x00", "\x01\x03\xffa", "\x01\x03\x1e" + strings.Repeat("a", 29),
		"\x01\x03\x1f" + strings.Repeat("a", 31), "\x01\x03\xff" + strings.Repeat("a", 255), "\x09" + strings.Repeat("\x00", 9), "\x0a" + strings.Repeat("\x00", 10), "\xff" + strings.Repeat("\x00", 255),
		"\x08" + strings.Repeat("\x00", 7), "\x08" + strings.Repeat("\x00", 9), "\x09" + strings.Repeat("\x00", 8), "\x09" + strings.Repeat(five, 9), strings.Repeat("\x00", 1000), strings.Repeat("\xff", 1000),
		strings.Repeat("\x01", 1000), strings.Repeat("\x03", 1000),
	} {
		sayNoVals(t, s)
	}
	for ty := 4; ty < 256; ty++ {
		sayNoVals(t, "\x01"+oneByte(ty))
		sayNoVals(t, "\x01"+oneByte(ty)+"\x00")
		sayNoVals(t, "\x02\x00"+oneByte(ty)+"\x01a")
	}
	for n := 2; n < 256; n++ {
		sayNoVals(t, "\x01\x01"+oneByte(n))
		sayNoVals(t, "\x01\x02"+oneByte(n)+"\x00\x00\x00\x00\x00\x01")
	}
}

func sayNoStmt(t *testing.T, s string) {
	t.Helper()
	if got, ok := impl.ReadStmt([]byte(s)); ok || !same(got, impl.Stmt{}) {
		t.Errorf("%q is read as %+v, %v", s, got, ok)
	}
}

func TestP4BytesOfNoStatementAreNotRead(t *testing.T) {
	if got, ok := impl.ReadStmt(nil); ok || !same(got, impl.Stmt{}) {
		t.Errorf("no bytes are read as %+v, %v", got, ok)
	}
	head, made := "S\x05\x01t\x00\x00", "\x01\x01\x01k\x02\x01\x00\x00\x01\x01k\x00\x00"
	for _, s := range []string{
		"", "S", "s", "\x00", "S\x01", "SS\x04\x01t\x00\x00", "\x04\x01t\x00\x00", "P\x04\x01t\x00\x00", "s\x04\x01t\x00\x00", "\x00\x04\x01t\x00\x00", "\xd3\x04\x01t\x00\x00",
		"S\x00\x01t\x00\x00", "S\x06\x01t\x00\x00", "S\xff\x01t\x00\x00", "S4\x01t\x00\x00", "S\x04\x00\x00\x00", "S\x04\x01T\x00\x00", "S\x04\x01\x00\x00\x00", "S\x04\x02t\x00\x00",
		"S\x04\x09abcdefghi\x00\x00", "S\x04\xfft\x00\x00", "S\x04\x01t\x00", "S\x04\x01t", "S\x04\x01t\x00\x00\x00", "S\x04\x01t\x01\x00\x00", "S\x04\x01t\x00\x01\x00",
		"S\x01\x01t\x00\x00", "S\x01\x01t\x01\x00\x01\x00", "S\x01\x01t\x01\x00\x00", "S\x01\x01t\x00\x09" + strings.Repeat("\x00", 9), "S\x01\x01t\x00\x01\x04", "S\x01\x01t\x00\x01\x01\x02",
		"S\x01\x01t\x00\x01\x02\x01\x00\x00\x00\x00\x00\x00", "S\x01\x01t\x00\x01\x02\x00\x01\x00\x00\x00\x00\x00", "S\x01\x01t\x00\x02\x00", "S\x01\x01t\x00\x01\x03\x02a", "S\x01\x00\x00\x01\x00",
		"S\x02\x01t\x00\x01\x00", "S\x02\x01t\x01\x00\x00", "S\x02\x01t\x00\x00", "S\x02\x01t\x09" + strings.Repeat("\x00", 9) + "\x01\x00", "S\x02\x01t\x01\x00\x09" + strings.Repeat("\x00", 9),
		"S\x03\x01t\x00\x00", "S\x03\x01t\x00\x01\x00", "S\x03\x01t\x01\x00\x01\x00", "S\x03\x01t\x01\x00", "S\x03\x01t\x09" + strings.Repeat("\x00", 9) + "\x00",
		head, head + "\x02", head + "\x02\x00\x00\x00", head + "\x02\x00\x00\x00\x00\x00", head + "\x00\x00\x00\x00\x00", head + "\x06\x00\x00\x00\x00", head + "\xff\x00\x00\x00\x00",
		head + "\x02\x00\x00\x01x\x00", head + "\x02\x00\x00\x00\x01x", head + "\x02\x00\x01\x01k\x00\x00", head + "\x02\x00\x01\x00\x00\x00", head + "\x02\x01\x01n\x03\x00\x00\x00\x00\x00\x00",
		"S\x05\x00\x00\x00\x02\x00\x00\x00\x00", "S\x05\x01t\x01\x00\x00\x02\x00\x00\x00\x00", "S\x05\x01t\x00\x01\x00\x02\x00\x00\x00\x00", "S\x04\x01t\x00\x00\x02\x00\x00\x00\x00", "S\x04\x01t\x00\x00\x00\x00\x00\x00\x00",
		head + "\x04\x00\x00\x00\x00", head + "\x04\x00\x00\x01x\x01y", head + "\x04\x00\x00\x01X\x00", head + "\x04\x00\x00\x02x\x00", head + "\x05\x00\x00\x01x\x00", head + "\x05\x00\x00\x00\x01y",
		head + "\x05\x00\x00\x01x\x09abcdefghi", head + "\x03\x00\x00\x00\x00", head + "\x03\x01\x01n\x02\x01\x00\x00\x00\x00\x00", head + "\x03\x02\x01n\x02\x00\x00\x00\x01m\x02\x00\x00\x00\x00\x00\x00",
		head + "\x03\x01\x01n\x00\x00\x00\x00\x00\x00\x00", head + "\x03\x01\x01n\x04\x00\x00\x00\x00\x00\x00", head + "\x03\x01\x00\x02\x00\x00\x00\x00\x00\x00", head + "\x03\x01\x01n\x02\x02\x00\x00\x00\x00\x00",
		head + "\x03\x01\x01n\x02\x00\x02\x00\x00\x00\x00", head + "\x03\x01\x01n\x02\xff\x01\x02\x00\x00\x00\x00\x00\x00\x01\x00\x00\x00", head + "\x03\x01\x01n\x02\x00\xff\x00\x00\x00\x00",
		head + "\x03\x01\x01n\x01\x00\x00\x01\x01\x00\x00\x00", head + "\x03\x01\x01n\x01\x00\x01\x01\x02\x00\x00\x00", head + "\x03\x01\x01n\x02\x00\x01\x01\x01\x00\x00\x00", head + "\x03\x01\x01n\x02\x01\x01\x00\x00\x00\x00",
		head + "\x03\x01\x01n\x02\x00\x01\x02\x01\x00\x00\x00\x00\x00\x00\x00\x00\x00", head + made[:len(made)-1], head + made + "\x00", head + "\x01\x00\x00\x00\x00", head + "\x01\x00\x01\x01k\x00\x00",
		head + "\x01\x01\x01k\x02\x01\x00\x00\x00\x00\x00", head + "\x01\x01\x01k\x02\x00\x00\x00\x01\x01k\x00\x00", head + "\x01\x01\x01k\x02\x01\x00\x00\x01\x01x\x00\x00", head + "\x01\x01\x01k\x02\x01\x00\x00\x01\x00\x00\x00",
		head + "\x01\x01\x01k\x02\x01\x00\x00\x02\x01k\x01k\x00\x00", head + "\x01\x01\x01k\x02\x01\x00\x00\xff\x01k\x00\x00", head + "\x01\xff\x01k\x02\x01\x00\x00\x01\x01k\x00\x00",
		head + "\x01\x09" + strings.Repeat("\x01k\x02\x01\x00\x00", 9) + "\x01\x01k\x00\x00", strings.Repeat("S", 1000), "S\x05\x01t" + strings.Repeat("\x00", 1000), "S" + strings.Repeat("\xff", 1000), "S" + strings.Repeat("\x05", 1000),
	} {
		sayNoStmt(t, s)
	}
}

func TestP4StatementsCutOrWithMoreAreNotRead(t *testing.T) {
	for i, s := range rightStmts() {
		b := stmtBytesForm(s)
		for _, more := range []string{"\x00", "\x01", "S", "\xff", b} {
			sayNoStmt(t, b+more)
			sayNoStmt(t, more+b)
		}
		if i%7 != 0 {
			continue
		}
		for n := range len(b) {
			sayNoStmt(t, b[:n])
			sayNoStmt(t, b[n+1:])
		}
		for c := range 256 {
			if c != 'S' {
				sayNoStmt(t, oneByte(c)+b[1:])
			}
		}
	}
}

// changedBytes are rows of bytes near to s: a byte out, in or another one, and
// a piece out, twice or elsewhere.
func changedBytes(s string) []string {
	out := []string{s}
	for i := range len(s) + 1 {
		for _, c := range "\x00\x01\x02\x03\x04\x05\x06\x08\x09\x1e\x1f@ASZ`aktxz{\x7f" {
			out = append(out, s[:i]+string(c)+s[i:])
		}
		out = append(out, s[:i], s[i:], s[:i]+"\x80"+s[i:], s[:i]+"\xff"+s[i:])
		if i == len(s) {
			continue
		}
		for c := range 256 {
			out = append(out, s[:i]+oneByte(c)+s[i+1:])
		}
		for j := i + 1; j <= min(i+6, len(s)); j++ {
			out = append(out, s[:i]+s[j:], s[:j]+s[i:], s[:i]+s[j:]+s[i:j])
		}
	}
	return out
}

func TestP4BytesNearToStatements(t *testing.T) {
	stmts := []impl.Stmt{
		insert("t", rowOf(intVal(-5))), insert("tab", rowOf(textVal("x y"), impl.Val{}, boolVal(0), intVal(impl.MaxNum))), insert("t", rowOf(valsOf(boolVal(1), impl.MaxCols)...)),
		update("t", intKey(5), rowOf(intVal(0), impl.Val{})), update("t", keyOf(textVal(""), boolVal(1)), rowOf(textVal("\x00\x01"))), remove("t", intKey(1)), remove("abcdefgh", keyOf(textVal("a"), boolVal(0))),
		empty("t"), empty("abcdefgh"), change(drop("t")), change(outOf("t", "x")), change(rename("t", "x", "abcdefgh")), change(add("t", freeCol("n"))), change(add("t", defCol("n", true, intVal(-4)))),
		change(add("t", impl.Col{Name: "n", Ty: impl.TyText, Has: true, Def: textVal("a\xff")})), change(add("t", impl.Col{Name: "n", Ty: impl.TyBool, Has: true, Def: boolVal(1)})),
		change(create(tableOf("t", "k", "k"))), change(create(tableOf("t", "ka x kb", "ka kb"))), change(create(impl.Table{Name: "t", Cols: []impl.Col{defCol("a", true, intVal(1)), keyCol("b")}, Keys: []string{"a", "b"}})),
	}
	read := 0
	for _, s := range stmts {
		for _, near := range changedBytes(stmtBytesForm(s)) {
			want, ok := stmtIn(near)
			if !ok {
				sayNoStmt(t, near)
				continue
			}
			sayStmtBytes(t, want, near)
			read++
		}
	}
	if read < 10*len(stmts) {
		t.Errorf("only %d of the rows of bytes are right", read)
	}
}

func TestP4BytesNearToValues(t *testing.T) {
	lists := [][]impl.Val{
		nil, keyOf(impl.Val{}), keyOf(boolVal(1)), keyOf(intVal(0)), keyOf(intVal(-1)), keyOf(intVal(impl.MaxNum)), keyOf(intVal(-impl.MaxNum)), keyOf(textVal("")), keyOf(textVal("ab")),
		keyOf(textVal(strings.Repeat("\x02", impl.MaxStr))), keyOf(intVal(3), textVal("\x00"), boolVal(0), impl.Val{}), valsOf(impl.Val{}, impl.MaxCols), valsOf(textVal("\x03"), impl.MaxCols),
	}
	for _, l := range lists {
		for _, near := range changedBytes(rowForm(l)) {
			want, ok := valsIn(near)
			if !ok {
				sayNoVals(t, near)
				continue
			}
			sayVals(t, want, near)
		}
	}
}

func TestP4ShortRowsOfBytes(t *testing.T) {
	for a := range 256 {
		for b := range 256 {
			for _, s := range []string{oneByte(a) + oneByte(b), oneByte(a), "\x01" + oneByte(a) + oneByte(b), "\x02\x00" + oneByte(a) + oneByte(b)} {
				want, ok := valsIn(s)
				if !ok {
					sayNoVals(t, s)
					continue
				}
				sayVals(t, want, s)
			}
			sayNoStmt(t, oneByte(a)+oneByte(b))
			sayNoStmt(t, "S"+oneByte(a)+oneByte(b))
		}
	}
}

// sumOf is Sum as one number of base 257, its remainder taken at the end.
func sumOf(s string) int {
	n, base := big.NewInt(1), big.NewInt(257)
	for i := range len(s) {
		n.Mul(n, base)
		n.Add(n, big.NewInt(int64(s[i])+1))
	}
	return int(n.Mod(n, big.NewInt(16777213)).Int64())
}

func TestP15Sum(t *testing.T) {
	for s, want := range map[string]int{"": 1, "\x00": 258, "\xff": 513, "\x01": 259, "\x00\x01": 66308, "\x00\x00": 66307, "\xff\xff": 132097, "\x00\x00\x00": 17040900 - 16777213, "S": 341} {
		if got := impl.Sum([]byte(s)); got != want {
			t.Errorf("Sum of %q is %d", s, got)
		}
	}
	if impl.Sum(nil) != 1 || impl.Sum([]byte{}) != 1 {
		t.Error("Sum of no bytes isn't 1")
	}
	for a := range 256 {
		for _, s := range []string{oneByte(a), oneByte(a) + "\x00", "\x00" + oneByte(a), "\xff\xff" + oneByte(a), strings.Repeat(oneByte(a), 1000), "abc" + oneByte(a) + "def"} {
			if got := impl.Sum([]byte(s)); got != sumOf(s) {
				t.Errorf("Sum of %q is %d, not %d", s, got, sumOf(s))
			}
		}
	}
	for _, s := range rightStmts() {
		b := stmtBytesForm(s)
		if got := impl.Sum([]byte(b)); got != sumOf(b) {
			t.Errorf("Sum of %q is %d, not %d", b, got, sumOf(b))
		}
	}
	if got := impl.Sum(bytes.Repeat([]byte{255}, 1<<20)); got < 0 || got >= 16777213 {
		t.Errorf("Sum of many bytes is %d", got)
	}
}

func TestP15PutNumIsNewMemory(t *testing.T) {
	for _, s := range []string{"", "a", "abc", strings.Repeat("x", 40)} {
		for _, size := range []int{1, 2, 3, 6} {
			for _, room := range []int{0, 1, 2, 6, 50} {
				b := append(make([]byte, 0, len(s)+room), s...)
				args := bytesList("b", b)
				var one, two []byte
				sayUnchanged(t, "PutNum", args, func() {
					one, _ = impl.PutNum(b, 7, size)
					two, _ = impl.PutNum(b, 9, size)
					impl.PutNum(b, -1, size)
					impl.PutNum(b, 1, 7)
				})
				if one[len(one)-1] != 7 || two[len(two)-1] != 9 {
					t.Errorf("PutNum of %q twice is %q and %q", s, one, two)
				}
				sayApart(t, "PutNum", slices.Concat(args, bytesList("one", one), bytesList("two", two)))
			}
		}
	}
}

func TestP15WrittenBytesAreNewMemory(t *testing.T) {
	for i, s := range append(rightStmts(), wrongStmts()...) {
		args := stmtLists("s", s)
		var whole, key, row []byte
		sayUnchanged(t, "StmtBytes", args, func() {
			whole, _ = impl.StmtBytes(s)
			key, _ = impl.RowBytes(s.Key)
			row, _ = impl.RowBytes(s.Row.Vals)
		})
		if i%11 == 0 && impl.StmtOk(s) {
			sayNoneShared(t, "StmtBytes", args, slices.Concat(bytesList("whole", whole), bytesList("key", key), bytesList("row", row)))
		}
	}
	for _, v := range risingVals() {
		one, _ := impl.ValBytes(v)
		two, _ := impl.ValBytes(v)
		sayApart(t, "ValBytes", append(bytesList("one", one), bytesList("two", two)...))
	}
	for _, w := range []string{"", "a", "abcdefgh"} {
		one, _ := impl.WordBytes(w)
		two, _ := impl.WordBytes(w)
		sayApart(t, "WordBytes", append(bytesList("one", one), bytesList("two", two)...))
		if again, _ := impl.WordBytes(w); string(again) != wordForms(w) {
			t.Errorf("behind a caller's writing WordBytes(%q) is %q", w, again)
		}
	}
}

func TestP15ThingsReadFromBytesAreNewMemory(t *testing.T) {
	for _, s := range []impl.Stmt{
		insert("t", rowOf(intVal(1), textVal("abc"))), update("t", keyOf(intVal(1), textVal("abc")), rowOf(intVal(1), textVal("abc"))), remove("t", keyOf(textVal("abc"))),
		empty("t"), change(add("t", defCol("n", true, intVal(4)))), change(create(tableOf("t", "ka x kb", "ka kb"))), change(rename("t", "x", "y")),
	} {
		b := roomyBytes(stmtBytesForm(s))
		args := bytesList("b", b)
		var got impl.Stmt
		sayUnchanged(t, "ReadStmt", args, func() { got, _ = impl.ReadStmt(b) })
		lists := append(args, stmtLists("answer", got)...)
		args[0].spoil()
		if !same(got, s) {
			t.Errorf("behind a caller's writing %+v has become %+v", s, got)
		}
		sayApart(t, "ReadStmt", lists)
		sayStmtBytes(t, s, stmtBytesForm(s))
	}
	l := keyOf(intVal(-1), textVal("abc"), impl.Val{}, boolVal(1))
	b := roomyBytes(rowForm(l))
	var got []impl.Val
	sayUnchanged(t, "ReadVals", bytesList("b", b), func() { got, _ = impl.ReadVals(b) })
	bytesList("b", b)[0].spoil()
	if !slices.Equal(got, l) {
		t.Errorf("behind a caller's writing %+v has become %+v", l, got)
	}
	sayApart(t, "ReadVals", append(bytesList("b", b), valsList("answer", got)...))
}

func TestP15ArgumentsOfBytesStay(t *testing.T) {
	for _, s := range []string{"", "\x00", "\x01\x03\x02ab", "\x01\x03\x02a", "S\x04\x01t\x00\x00", "S\x04\x01t\x00", "S\x01\x01t\x00\x01\x03\x01a", strings.Repeat("\xff", 50)} {
		b := roomyBytes(s)
		sayUnchanged(t, "bytes "+strconv.Quote(s), bytesList("b", b), func() {
			impl.GetNum(b, 0, 2)
			impl.GetNum(b, len(b), 1)
			impl.ReadStmt(b)
			impl.ReadVals(b)
			impl.Sum(b)
		})
	}
}
