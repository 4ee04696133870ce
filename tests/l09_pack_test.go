package tests

import (
	"bytes"
	"math"
	"slices"
	"strconv"
	"strings"
	"testing"

	"loop.example/g00462/impl"
)

// The packets of chapter 10 a second time: right batches are written as
// strings put together ..
func twoBytes(n int) string { return oneByte(n>>8) + oneByte(n) }

func summed(s string) string {
	n := sumOf(s)
	return s + oneByte(n>>16) + twoBytes(n)
}

func namesForm(l []string) string { return oneByte(len(l)) + wordForms(l...) }

func partForm(p impl.Part) string {
	s := stmtBytesForm(p.Stmt)
	return twoBytes(len(s)) + s + namesForm(p.Cols) + namesForm(p.Keys)
}

// bodyForm is a packet without its sum.
func bodyForm(b impl.Batch) string {
	s := "P" + twoBytes(b.Lsn) + twoBytes(b.Prev) + oneByte(len(b.Parts))
	for _, p := range b.Parts {
		s += partForm(p)
	}
	return s
}

func packForm(b impl.Batch) string { return summed(bodyForm(b)) }

// .. and bytes are read by the eater.
func (e *eater) two() int { return int(e.some(1)[0])<<8 + int(e.some(1)[0]) }

func (e *eater) names() []string {
	var l []string
	for n := e.upTo(8); n > 0; n-- {
		w := e.word()
		e.wrong = e.wrong || w == "" || strings.Trim(w, "abcdefghijklmnopqrstuvwxyz") != ""
		l = append(l, w)
	}
	return l
}

func (e *eater) part() impl.Part {
	s, ok := stmtIn(e.some(e.two()))
	e.wrong = e.wrong || !ok
	p := impl.Part{Stmt: s}
	p.Cols = e.names()
	p.Keys = e.names()
	return p
}

// bodyIn reads a packet without its sum.
func bodyIn(s string) (impl.Batch, bool) {
	e := &eater{rest: s}
	first := e.some(1)
	b := impl.Batch{Lsn: e.two()}
	b.Prev = e.two()
	for n := e.upTo(60); n > 0; n-- {
		b.Parts = append(b.Parts, e.part())
	}
	return b, first == "P" && b.Prev < b.Lsn && b.Lsn <= 400 && !e.wrong && e.rest == ""
}

func packOf(s string) impl.Pack { return impl.Pack{Bytes: roomyBytes(s)} }

func packLists(name string, p impl.Pack) []list { return bytesList(name+".Bytes", p.Bytes) }

func packsLists(name string, l []impl.Pack) []list {
	countOf := func(p impl.Pack) string { return strconv.Itoa(len(p.Bytes)) }
	out := []list{listOf(name, l, impl.Pack{Bytes: make([]byte, 9999)}, countOf)}
	for i, p := range l {
		out = append(out, packLists(name+"["+strconv.Itoa(i)+"]", p)...)
	}
	return out
}

func sayRead(t *testing.T, s string, want impl.Batch) {
	t.Helper()
	if got, ok := impl.PackRead(packOf(s)); !ok || !same(got, want) {
		t.Errorf("%q is read as %+v, %v; not %+v", s, got, ok, want)
	}
}

func sayNoPack(t *testing.T, s string) {
	t.Helper()
	if got, ok := impl.PackRead(packOf(s)); ok || !same(got, impl.Batch{}) {
		t.Errorf("%q is read as %+v, %v", s, got, ok)
	}
}

// sayPacked asks that the batch is right, has this packet and is read from it.
func sayPacked(t *testing.T, b impl.Batch, want string) {
	t.Helper()
	if !impl.BatchOk(b) {
		t.Errorf("%+v is not right", b)
	}
	p, ok := impl.PackOf(b)
	sayWritten(t, "PackOf of "+showOf(b), p.Bytes, ok, want)
	sayRead(t, want, b)
	if !impl.SameBatch(b, b) {
		t.Errorf("%+v is not the same as itself", b)
	}
}

func sayNotPacked(t *testing.T, b impl.Batch) {
	t.Helper()
	if impl.BatchOk(b) {
		t.Errorf("%+v is right", b)
	}
	p, ok := impl.PackOf(b)
	sayNotWritten(t, "PackOf of "+showOf(b), p.Bytes, ok)
	if right := setUpBatch(); impl.SameBatch(b, b) || impl.SameBatch(b, right) || impl.SameBatch(right, b) {
		t.Errorf("%+v, which isn't right, is the same as another one", b)
	}
}

// manyParts are n parts, no two alike where n is at most 60.
func manyParts(n int) []impl.Part {
	var l []impl.Part
	for i := range n {
		l = append(l, putPart(i))
	}
	return l
}

// rightBatches are different from one another.
func rightBatches() []impl.Batch {
	most, long := namesOf("k", impl.MaxCols), strings.Repeat("abcdefgh ", impl.MaxCols)
	l := []impl.Batch{
		batchOf(1, 0), batchOf(2, 0), batchOf(2, 1), batchOf(255, 254), batchOf(256, 255), batchOf(257, 1), batchOf(400, 0), batchOf(400, 255), batchOf(400, 256), batchOf(400, 399),
		setUpBatch(), batchOf(3, 2, putPart(1)), batchOf(3, 2, putPart(1), putPart(1)), batchOf(3, 2, putPart(1), putPart(2)), batchOf(3, 2, putPart(2), putPart(1)), batchOf(5, 4, drifting()...), batchOf(5, 4, manyParts(impl.MaxParts)...), batchOf(5, 4, manyParts(impl.MaxParts-1)...),
		batchOf(9, 3, partOf(empty("b"), "k", "")), batchOf(9, 3, partOf(empty("b"), "", "k")), batchOf(9, 3, partOf(empty("b"), "", "")), batchOf(9, 3, partOf(empty("b"), "k k", "k")), batchOf(9, 3, partOf(empty("b"), "k", "k k")), batchOf(9, 3, partOf(empty("b"), "ab c", "a")),
		batchOf(9, 3, partOf(empty("b"), "a bc", "a")), batchOf(9, 3, partOf(empty("b"), "a", "ab c")), batchOf(9, 3, partOf(empty("b"), "c ab", "a")), batchOf(9, 3, partOf(empty("b"), most, most)), batchOf(9, 3, partOf(empty("b"), long, long)), batchOf(9, 3, partOf(empty("b"), long, "")),
		batchOf(9, 3, partOf(empty("b"), "", long)), batchOf(9, 3, partOf(empty("b"), "a z abcdefg abcdefgh", "zzzzzzzz")), batchOf(9, 3, partOf(change(drop("b")), "", "")), batchOf(9, 3, partOf(change(drop("b")), "k x", "k")), batchOf(9, 3, partOf(change(drop("b")), long, most)),
	}
	for i, vals := range [][]impl.Val{intKey(1), intKey(0), keyOf(boolVal(1)), keyOf(textVal("1")), keyOf(textVal("")), keyOf(impl.Val{}), valsOf(textVal(strings.Repeat("\xff", impl.MaxStr)), impl.MaxCols), valsOf(intVal(-impl.MaxNum), impl.MaxCols)} {
		l = append(l, batchOf(10+i, i, partOf(insert("b", rowOf(vals...)), most, "ka")), batchOf(10+i, i, partOf(remove("b", vals), most, "ka")), batchOf(10+i, i, partOf(update("b", vals, rowOf(vals...)), most, "ka")))
	}
	for i, d := range rightDdls() {
		if i%7 == 0 {
			l = append(l, batchOf(40, i%40, partOf(change(d), "", "")))
		}
	}
	return l
}

// fewBatches are small ones of every kind of statement, with names and without.
func fewBatches() []impl.Batch {
	return []impl.Batch{
		batchOf(1, 0), batchOf(258, 257), batchOf(2, 1, partOf(empty("b"), "", "")), batchOf(2, 1, partOf(empty("t"), "k ab", "k")), batchOf(7, 0, partOf(insert("b", rowOf(boolVal(1), impl.Val{})), "k x", "k")),
		batchOf(400, 399, partOf(remove("b", keyOf(textVal("a"))), "x", "x")), batchOf(5, 3, partOf(update("b", keyOf(boolVal(0)), rowOf(textVal(""))), "k", "")), batchOf(5, 4, partOf(change(drop("t")), "", ""), partOf(empty("b"), "", "k")),
		batchOf(6, 5, partOf(empty("b"), "", ""), partOf(empty("b"), "", ""), partOf(empty("c"), "", "")), batchOf(9, 8, partOf(change(create(tableOf("t", "k", "k"))), "", "")),
	}
}

func TestP15PackOfSomeBatches(t *testing.T) {
	sayPacked(t, batchOf(1, 0), "P\x00\x01\x00\x00\x00\x51\xa1\x39")
	sayPacked(t, batchOf(400, 399), "P\x01\x90\x01\x8f\x00\x07\xe9\x18")
	sayPacked(t, batchOf(2, 1, partOf(empty("t"), "k ab", "k")), "P\x00\x02\x00\x01\x01\x00\x06S\x04\x01t\x00\x00\x02\x01k\x02ab\x01\x01k\xe9\x60\xcf")
	two := []impl.Part{partOf(change(drop("t")), "", ""), partOf(remove("t", intKey(5)), "k", "k")}
	sayPacked(t, batchOf(3, 0, two...), "P\x00\x03\x00\x00\x02\x00\x0bS\x05\x01t\x00\x00\x02\x00\x00\x00\x00\x00\x00\x00\x0eS\x03\x01t\x01\x02\x00\x00\x00\x00\x00\x00\x05\x00\x01\x01k\x01\x01k\x13\x35\x71")
	for _, b := range append(rightBatches(), fewBatches()...) {
		sayPacked(t, b, packForm(b))
	}
	sayNotPacked(t, impl.Batch{})
}

func TestP15BatchesOfAllStatements(t *testing.T) {
	for i, s := range rightStmts() {
		names := namesOf("k", i%(impl.MaxCols+1))
		for _, b := range []impl.Batch{batchOf(i%400+1, i%400, partOf(s, "", "")), batchOf(400, i%400, partOf(s, names, "k")), batchOf(4, 2, putPart(1), partOf(s, "k", names))} {
			sayPacked(t, b, packForm(b))
		}
	}
	for i, s := range wrongStmts() {
		sayNotPacked(t, batchOf(5, 2, partOf(s, "", "")))
		sayNotPacked(t, batchOf(5, 2, partOf(s, "k x", "k")))
		sayNotPacked(t, batchOf(5, 2, slices.Insert(manyParts(3), i%4, partOf(s, "k x", "k"))...))
	}
	for at := range impl.MaxParts {
		l := manyParts(impl.MaxParts)
		l[at].Stmt = impl.Stmt{}
		sayNotPacked(t, batchOf(5, 2, l...))
	}
}

func TestP15BatchesAtEachPlace(t *testing.T) {
	places := []int{-400, -2, -1, 0, 1, 2, 3, 4, 254, 255, 256, 257, 398, 399, 400, 401, 402, 511, 512, 65535, 65536, 65537, 1<<32 + 1, math.MaxInt, math.MinInt, math.MinInt + 1}
	right := 0
	for _, lsn := range places {
		for _, prev := range append(places, lsn-1, lsn, lsn+1) {
			for _, b := range []impl.Batch{batchOf(lsn, prev), batchOf(lsn, prev, putPart(1))} {
				if 1 <= lsn && lsn <= 400 && 0 <= prev && prev < lsn {
					right++
					sayPacked(t, b, packForm(b))
				} else {
					sayNotPacked(t, b)
				}
			}
		}
	}
	if right < 100 {
		t.Errorf("only %d batches are right", right)
	}
	for lsn := 1; lsn <= impl.MaxRecs; lsn++ {
		sayPacked(t, batchOf(lsn, lsn-1), packForm(batchOf(lsn, lsn-1)))
		sayNotPacked(t, batchOf(lsn, lsn))
		sayNotPacked(t, batchOf(lsn, -1))
	}
}

func TestP15BatchesWithManyParts(t *testing.T) {
	for n := range impl.MaxParts + 1 {
		b := batchOf(9, 8, manyParts(n)...)
		sayPacked(t, b, packForm(b))
	}
	for _, n := range []int{61, 62, 100, 255, 256, 257, 256 + 60, 512} {
		sayNotPacked(t, batchOf(9, 8, manyParts(n)...))
	}
}

func TestP15BatchesWithManyNames(t *testing.T) {
	for _, word := range []string{"a", "z", "ab", "zzzzzzz", "abcdefgh"} {
		for n := range impl.MaxCols + 1 {
			words := strings.Repeat(word+" ", n)
			for _, b := range []impl.Batch{batchOf(9, 8, partOf(empty("b"), words, "")), batchOf(9, 8, partOf(put(1), "", words)), batchOf(9, 8, partOf(change(drop("b")), words, words), putPart(1))} {
				sayPacked(t, b, packForm(b))
			}
		}
		for _, n := range []int{9, 10, 16, 255, 256, 257, 264} {
			words := strings.Repeat(word+" ", n)
			sayNotPacked(t, batchOf(9, 8, partOf(empty("b"), words, "")))
			sayNotPacked(t, batchOf(9, 8, partOf(empty("b"), "", words)))
			sayNotPacked(t, batchOf(9, 8, putPart(1), partOf(change(drop("b")), words, words)))
		}
	}
}

func TestP15BatchesWithNamesThatAreNoWords(t *testing.T) {
	for _, word := range append(wrongWords(), "|", "\x00", "`", "{", "abcdefghi", strings.Repeat("a", 255), strings.Repeat("a", 256), strings.Repeat("a", 257)) {
		for n := 1; n <= impl.MaxCols; n++ {
			for at := range n {
				words := slices.Repeat([]string{"k"}, n)
				words[at] = word
				sayNotPacked(t, batchOf(9, 8, impl.Part{Stmt: empty("b"), Cols: words}))
				sayNotPacked(t, batchOf(9, 8, impl.Part{Stmt: empty("b"), Keys: words}))
				sayNotPacked(t, batchOf(9, 8, putPart(1), impl.Part{Stmt: change(drop("b")), Cols: []string{"k"}, Keys: words}, putPart(2)))
			}
		}
	}
}

func TestP4PacketsAreReadAsWritten(t *testing.T) {
	seen := map[string]bool{}
	for _, b := range append(rightBatches(), fewBatches()...) {
		p, ok := impl.PackOf(b)
		read, also := impl.PackRead(p)
		again, third := impl.PackOf(read)
		if !ok || !also || !third || !bytes.Equal(again.Bytes, p.Bytes) || !impl.SameBatch(b, read) {
			t.Errorf("%+v is packed as %q, read as %+v and packed as %q", b, p.Bytes, read, again.Bytes)
		}
		seen[string(p.Bytes)] = true
	}
	if len(seen) != len(rightBatches())+len(fewBatches())-1 {
		t.Errorf("%d packets are different", len(seen))
	}
	n := 0
	for _, l := range append(rightLogs(), sideBySide(), committed(1, stmtsOfParts(drifting())...)) {
		for _, b := range impl.Decode(l, 0) {
			if len(b.Parts) <= impl.MaxParts {
				sayPacked(t, b, packForm(b))
				n++
			}
		}
	}
	if n < 100 {
		t.Errorf("only %d batches of logs", n)
	}
}

func TestP4ACutPacketIsNeverRead(t *testing.T) {
	for _, b := range append(rightBatches(), fewBatches()...) {
		p, _ := impl.PackOf(b)
		for n := -1; n < len(p.Bytes); n++ {
			if got, ok := impl.PackRead(impl.PackCut(p, n)); ok || !same(got, impl.Batch{}) {
				t.Errorf("%q cut to %d bytes is read as %+v, %v", p.Bytes, n, got, ok)
			}
			if n > 0 {
				sayNoPack(t, string(p.Bytes[n:]))
			}
		}
		whole, ok := impl.PackRead(impl.PackCut(p, len(p.Bytes)))
		if !ok || !impl.SameBatch(whole, b) {
			t.Errorf("%q, which is whole, is read as %+v, %v", p.Bytes, whole, ok)
		}
	}
}

func TestP4APacketWithMoreIsNotRead(t *testing.T) {
	for _, b := range append(rightBatches(), fewBatches()...) {
		s := packForm(b)
		for _, more := range []string{"\x00", "\x01", "\xff", "P", s[len(s)-1:], s[len(s)-3:], s} {
			sayNoPack(t, s+more)
			sayNoPack(t, more+s)
			sayNoPack(t, s[:len(s)-3]+more+s[len(s)-3:])
		}
		sayNoPack(t, summed(s))
	}
}

func TestP4AChangedPacketIsNotRead(t *testing.T) {
	for _, b := range fewBatches() {
		s := packForm(b)
		for i := range len(s) {
			for c := range 256 {
				if byte(c) != s[i] {
					sayNoPack(t, s[:i]+oneByte(c)+s[i+1:])
				}
			}
		}
	}
	for _, b := range rightBatches() {
		s := packForm(b)
		for i := range len(s) {
			if len(s) < 300 || i%31 == 0 || i > len(s)-9 {
				for bit := range 8 {
					sayNoPack(t, s[:i]+oneByte(int(s[i])^1<<bit)+s[i+1:])
				}
			}
		}
	}
}

func TestP4APacketWithAWrongSumIsNotRead(t *testing.T) {
	for _, b := range append(rightBatches(), fewBatches()...) {
		body := bodyForm(b)
		n := sumOf(body)
		for _, wrong := range []int{0, 1, n - 1, n + 1, n + 16777213, n - 16777213, n ^ 255, n ^ 1<<23, 16777213 - n, sumOf(body[1:]), sumOf(body[:len(body)-1]), sumOf(packForm(b)), n<<8 | n>>16} {
			if wrong&(1<<24-1) != n {
				sayNoPack(t, body+oneByte(wrong>>16)+twoBytes(wrong))
			}
		}
		sayNoPack(t, body)
		sayNoPack(t, body+oneByte(n>>16)+oneByte(n>>8))
		sayNoPack(t, body+twoBytes(n))
		sayNoPack(t, body+"\x00"+oneByte(n>>16)+twoBytes(n))
		if s := packForm(b); s[len(s)-3] != s[len(s)-1] {
			sayNoPack(t, body+oneByte(n)+oneByte(n>>8)+oneByte(n>>16))
		}
	}
}

func TestP4PacketsThatAreNeverWrittenAreNotRead(t *testing.T) {
	clearB, names := "\x00\x06S\x04\x01b\x00\x00", "\x01\x01k\x01\x01k"
	head, part := "P\x00\x05\x00\x03", clearB+names
	sayRead(t, summed(head+"\x01"+part), batchOf(5, 3, partOf(empty("b"), "k", "k")))
	for _, body := range []string{
		"", "P", "P\x00", "P\x00\x01\x00\x00", "p\x00\x01\x00\x00\x00", "S\x00\x01\x00\x00\x00", "\x00\x00\x01\x00\x00\x00", "\x00\x01\x00\x00\x00", "PP\x00\x01\x00\x00\x00", "\xd0\x00\x01\x00\x00\x00", "P\x01\x00\x00\x00\x00\x00",
		"P\x00\x00\x00\x00\x00", "P\x00\x01\x00\x01\x00", "P\x00\x01\x00\x02\x00", "P\x01\x91\x00\x00\x00", "P\x01\x91\x01\x90\x00", "P\x02\x00\x00\x00\x00", "P\xff\xff\x00\x00\x00", "P\x00\x05\x00\x05\x00", "P\x00\x05\x01\x00\x00", "P\x00\x05\xff\xff\x00",
		head, head + "\x00\x00", head + "\x01", head + "\x01\x00", head + "\xff", head + "\x00" + part, head + "\x02" + part, head + "\x03" + part + part, head + "\x01" + part + part, head + "\x01" + part + "\x00", head + "\xff" + part, head + "\x01\x00" + part,
		head + "\x3d" + strings.Repeat(part, 61), head + "\x3c" + strings.Repeat(part, 61), head + "\x3d" + strings.Repeat(part, 60), head + "\xff" + strings.Repeat(part, 255), head + "\x00" + strings.Repeat(part, 256), head + "\x01" + strings.Repeat(part, 257),
		head + "\x01\x00\x05S\x04\x01b\x00\x00" + names, head + "\x01\x00\x07S\x04\x01b\x00\x00" + names, head + "\x01\x00\x00S\x04\x01b\x00\x00" + names, head + "\x01\x01\x06S\x04\x01b\x00\x00" + names, head + "\x01\xff\xffS\x04\x01b\x00\x00" + names, head + "\x01\x06S\x04\x01b\x00\x00" + names,
		head + "\x01\x00\x07S\x04\x01b\x00\x00\x00" + names, head + "\x01\x00\x00" + names, head + "\x01\x00\x01S" + names, head + "\x01\x00\x06s\x04\x01b\x00\x00" + names, head + "\x01\x00\x06S\x04\x01B\x00\x00" + names, head + "\x01\x00\x06S\x06\x01b\x00\x00" + names, head + "\x01\x00\x05S\x04\x00\x00\x00" + names,
		head + "\x01\x06\x00S\x04\x01b\x00\x00" + names, head + "\x01\x00\x06S\x01\x01b\x00\x00" + names, head + "\x01\x00\x08S\x01\x01b\x00\x01\x01\x02" + names, head + "\x01\x00\x08S\x04\x01b\x00\x00\x00\x00" + "\x01k\x01\x01k",
		head + "\x01" + clearB, head + "\x01" + clearB + "\x00", head + "\x01" + clearB + "\x01", head + "\x01" + clearB + "\x01\x01k", head + "\x01" + clearB + "\x00\x01\x01", head + "\x01" + clearB + "\x02\x01k\x01\x01k", head + "\x01" + clearB + "\x00\x01k\x01\x01k", head + "\x01" + clearB + "\x01\x02k\x01\x01k",
		head + "\x01" + clearB + "\x01\x00\x00", head + "\x01" + clearB + "\x00\x01\x00", head + "\x01" + clearB + "\x01\x00\x01\x01k", head + "\x01" + clearB + "\x01\x01k\x01\x00", head + "\x01" + clearB + "\x01\x01K\x00", head + "\x01" + clearB + "\x01\x01k\x01\x01K", head + "\x01" + clearB + "\x01\x02k\x00\x00",
		head + "\x01" + clearB + "\x01\x09abcdefghi\x00", head + "\x01" + clearB + "\x00\x01\x09abcdefghi", head + "\x01" + clearB + "\x01\xffk\x00", head + "\x01" + clearB + "\x01\x01k\x02\x01k", head + "\x01" + clearB + "\x01\x01k\x00\x01k", head + "\x01" + clearB + "\x01\x01k\xff\x01k",
		head + "\x01" + clearB + "\x09" + strings.Repeat("\x01k", 9) + "\x00", head + "\x01" + clearB + "\x00\x09" + strings.Repeat("\x01k", 9), head + "\x01" + clearB + "\xff" + strings.Repeat("\x01k", 255) + "\x00", head + "\x01" + clearB + "\x08" + strings.Repeat("\x01k", 9) + "\x00",
		strings.Repeat("P", 1000), strings.Repeat("\x00", 1000), strings.Repeat("\xff", 5000), "P" + strings.Repeat("\x00", 1000), "P\x00\x02\x00\x01" + strings.Repeat("\xff", 70000), "P\x00\x02\x00\x01" + strings.Repeat("\x01", 1000),
	} {
		sayNoPack(t, body)
		sayNoPack(t, summed(body))
		sayNoPack(t, body+"\x00\x00\x00")
	}
	if got, ok := impl.PackRead(impl.Pack{}); ok || !same(got, impl.Batch{}) {
		t.Errorf("no bytes are read as %+v, %v", got, ok)
	}
}

// TestP4PacketsNearToOthers have the sum of what they are.
func TestP4PacketsNearToOthers(t *testing.T) {
	read := 0
	for _, b := range fewBatches() {
		for _, near := range changedBytes(bodyForm(b)) {
			want, ok := bodyIn(near)
			if !ok {
				sayNoPack(t, summed(near))
				continue
			}
			sayPacked(t, want, summed(near))
			read++
		}
	}
	if read < 1000 {
		t.Errorf("only %d of the packets are right", read)
	}
}

// TestP15PackReadStaysWithinTheList has memory behind the list, which is none of it.
func TestP15PackReadStaysWithinTheList(t *testing.T) {
	for _, b := range fewBatches() {
		s := packForm(b)
		for n := range len(s) {
			if _, ok := impl.PackRead(impl.Pack{Bytes: []byte(s)[:n]}); ok {
				t.Errorf("PackRead reads behind the list: %d bytes of %q", n, s)
			}
		}
	}
}

func sayPacks(t *testing.T, what string, l []impl.Rec, from int, all []impl.Batch) {
	t.Helper()
	var want []string
	ok := true
	for _, b := range all {
		if b.Lsn > from {
			want = append(want, packForm(b))
			ok = ok && len(b.Parts) <= 60
		}
	}
	if !ok {
		sayNoPacks(t, what, l, from)
		return
	}
	var got []string
	packs, ok := impl.Packs(l, from)
	for _, p := range packs {
		got = append(got, string(p.Bytes))
	}
	if !ok || !slices.Equal(got, want) {
		t.Errorf("%s: Packs(%+v, %d) is %q, %v; not %q", what, l, from, got, ok, want)
	}
}

func sayNoPacks(t *testing.T, what string, l []impl.Rec, from int) {
	t.Helper()
	if got, ok := impl.Packs(l, from); ok || len(got) != 0 {
		t.Errorf("%s: Packs(%+v, %d) is %+v, %v", what, l, from, got, ok)
	}
}

func TestP15PacksOfLogs(t *testing.T) {
	sayPacks(t, "nil", nil, 0, nil)
	sayPacks(t, "no commit", logOf(doing(1, put(1)), aborted(2)), 0, nil)
	side := sideBySide()
	for from := -3; from <= len(side)+3; from++ {
		sayPacks(t, "side by side", side, from, sideBySideBatches())
	}
	for _, from := range []int{math.MinInt, math.MaxInt, impl.MaxRecs, impl.MaxRecs + 1} {
		sayPacks(t, "side by side", side, from, sideBySideBatches())
	}
	sayPacks(t, "all in one", committed(9, stmtsOfParts(drifting())...), 0, []impl.Batch{batchOf(len(drifting())+2, 0, drifting()...)})
	for _, l := range rightLogs() {
		all := batchesIn(l)
		for from := -1; from <= len(l)+1; from++ {
			if len(l) < 100 || from%50 == 0 {
				sayPacks(t, "a right log", l, from, all)
			}
		}
	}
}

func TestP15PacksAreThoseOfDecode(t *testing.T) {
	for _, l := range append(rightLogs(), sideBySide(), manyCommits(133)) {
		for _, from := range []int{-1, 0, 1, 3, len(l) / 2, len(l) - 1, len(l)} {
			var want []impl.Pack
			right := true
			for _, b := range impl.Decode(l, from) {
				p, ok := impl.PackOf(b)
				right = right && ok
				want = append(want, p)
			}
			if !right {
				sayNoPacks(t, "a batch isn't right", l, from)
				continue
			}
			if got, ok := impl.Packs(l, from); !ok || !same(got, want) {
				t.Errorf("Packs(%+v, %d) is %+v, %v; not %+v", l, from, got, ok, want)
			}
		}
	}
}

func TestP15PacksWhereOneBatchIsTooLong(t *testing.T) {
	for _, n := range []int{59, 60, 61, 62, 300} {
		l := logOf(setUp(1), committed(2, slices.Repeat([]impl.Stmt{empty("b")}, n)...), committed(3, put(1)))
		place := n + 5
		for _, from := range []int{-1, 0, 2, 3, 4, place - 1} {
			if n > impl.MaxParts {
				sayNoPacks(t, "one is too long", l, from)
			} else {
				sayPacks(t, "all are right", l, from, batchesIn(l))
			}
		}
		for _, from := range []int{place, place + 1, place + 2} {
			sayPacks(t, "behind the long one", l, from, []impl.Batch{batchOf(place+3, place, putPart(1))})
		}
		sayPacks(t, "behind all", l, place+3, nil)
		sayPacks(t, "ahead of the long one", l[:place-1], 0, []impl.Batch{setUpBatch()})
	}
}

func TestP15PacksOfWrongLogs(t *testing.T) {
	for _, l := range append(wrongLogs(), append(sideBySide(), begin(1)), append(sideBySide(), impl.Rec{})) {
		for _, from := range []int{-1, 0, 3, len(l) - 1, len(l), impl.MaxRecs, math.MaxInt, math.MinInt} {
			sayNoPacks(t, "a wrong log", l, from)
		}
	}
}

func TestP15PackCut(t *testing.T) {
	for _, s := range []string{"", "\x00", "P", "abc", packForm(setUpBatch()), strings.Repeat("\xff", 300)} {
		for n := -3; n <= len(s)+3; n++ {
			want := s[:min(max(n, 0), len(s))]
			if got := impl.PackCut(packOf(s), n); string(got.Bytes) != want {
				t.Errorf("PackCut(%q, %d) is %q", s, n, got.Bytes)
			}
		}
		for _, n := range []int{math.MinInt, math.MinInt + 1, -len(s)} {
			if got := impl.PackCut(packOf(s), n); len(got.Bytes) != 0 {
				t.Errorf("PackCut(%q, %d) is %q", s, n, got.Bytes)
			}
		}
		for _, n := range []int{math.MaxInt, math.MaxInt - 1, len(s) + 100} {
			if got := impl.PackCut(packOf(s), n); string(got.Bytes) != s {
				t.Errorf("PackCut(%q, %d) is %q", s, n, got.Bytes)
			}
		}
	}
	for _, n := range []int{-1, 0, 1} {
		if got := impl.PackCut(impl.Pack{}, n); len(got.Bytes) != 0 {
			t.Errorf("PackCut of no bytes is %q", got.Bytes)
		}
	}
}

func TestP15SameBatch(t *testing.T) {
	for i, a := range rightBatches() {
		for j, b := range rightBatches() {
			if impl.SameBatch(a, b) != (i == j) {
				t.Errorf("SameBatch(%+v, %+v) is %v", a, b, i != j)
			}
		}
	}
	empties, nils := batchOf(4, 3, partOf(empty("b"), "", "")), impl.Batch{Lsn: 4, Prev: 3, Parts: []impl.Part{{Stmt: impl.Stmt{Kind: impl.StClear, Table: "b", Key: []impl.Val{}}}}}
	if !impl.SameBatch(empties, nils) || !impl.SameBatch(nils, empties) || !impl.SameBatch(impl.Batch{Lsn: 4, Parts: []impl.Part{}}, impl.Batch{Lsn: 4}) {
		t.Error("an empty list and one that is nil aren't the same")
	}
}

// TestP15BatchesThatDifferInOneThing changes one thing of a batch with
// everything in it.
func TestP15BatchesThatDifferInOneThing(t *testing.T) {
	made := func() impl.Batch {
		x := create(impl.Table{Name: "b", Cols: []impl.Col{keyCol("k"), defCol("n", false, intVal(4))}, Keys: []string{"k"}})
		return batchOf(7, 5, partOf(change(x), "", ""), partOf(update("b", intKey(1), plainRow(2)), "k n", "k"), partOf(change(rename("b", "n", "m")), "", ""))
	}
	for i, vary := range []func(*impl.Batch){
		func(b *impl.Batch) { b.Lsn = 8 }, func(b *impl.Batch) { b.Prev = 4 }, func(b *impl.Batch) { b.Parts = b.Parts[:2] }, func(b *impl.Batch) { b.Parts = append(b.Parts, putPart(1)) },
		func(b *impl.Batch) { b.Parts[1], b.Parts[2] = b.Parts[2], b.Parts[1] }, func(b *impl.Batch) { b.Parts[1].Cols = []string{"n", "k"} }, func(b *impl.Batch) { b.Parts[1].Cols = []string{"k"} },
		func(b *impl.Batch) { b.Parts[1].Cols = nil }, func(b *impl.Batch) { b.Parts[1].Keys = []string{"n"} }, func(b *impl.Batch) { b.Parts[1].Keys = nil }, func(b *impl.Batch) { b.Parts[0].Keys = []string{"k"} },
		func(b *impl.Batch) { b.Parts[1].Stmt.Table = "c" }, func(b *impl.Batch) { b.Parts[1].Stmt.Key[0].N = 2 }, func(b *impl.Batch) { b.Parts[1].Stmt.Key[0] = boolVal(1) }, func(b *impl.Batch) { b.Parts[1].Stmt.Row.Vals[1].S = "r3" },
		func(b *impl.Batch) { b.Parts[1].Stmt.Row.Vals[1] = impl.Val{} }, func(b *impl.Batch) { b.Parts[1].Stmt = put(2) }, func(b *impl.Batch) { b.Parts[0].Stmt.Ddl.Cols[1].Def.N = 5 }, func(b *impl.Batch) { b.Parts[0].Stmt.Ddl.Cols[1].Not = true },
		func(b *impl.Batch) { b.Parts[0].Stmt.Ddl.Cols[1] = freeCol("n") }, func(b *impl.Batch) { b.Parts[0].Stmt.Ddl.Cols[1].Name = "o" }, func(b *impl.Batch) { b.Parts[2].Stmt.Ddl.Name = "k" }, func(b *impl.Batch) { b.Parts[2].Stmt.Ddl.To = "o" },
		func(b *impl.Batch) { b.Parts[0].Stmt.Table, b.Parts[0].Stmt.Ddl.Table = "c", "c" },
	} {
		a, b := made(), made()
		if !impl.SameBatch(a, b) {
			t.Errorf("%+v made twice isn't the same", a)
		}
		vary(&b)
		if !impl.BatchOk(b) || impl.SameBatch(a, b) || impl.SameBatch(b, a) {
			t.Errorf("the change %d makes %+v, which isn't right or the same as ahead of it", i, b)
		}
	}
}

func TestP15PackOfIsNewMemory(t *testing.T) {
	for _, b := range append(fewBatches(), rightBatches()...) {
		args := batchesLists("b", []impl.Batch{b})
		var one, two impl.Pack
		sayUnchanged(t, "PackOf", args, func() {
			one, _ = impl.PackOf(b)
			two, _ = impl.PackOf(b)
		})
		if len(b.Parts) > 9 {
			continue
		}
		sayNoneShared(t, "PackOf", args, append(packLists("one", one), packLists("two", two)...))
	}
}

func TestP15PackReadIsNewMemory(t *testing.T) {
	for i, b := range append(fewBatches(), rightBatches()...) {
		if len(b.Parts) > 9 {
			continue
		}
		p := packOf(packForm(b))
		args := packLists("p", p)
		var one, two impl.Batch
		sayUnchanged(t, "PackRead", args, func() {
			one, _ = impl.PackRead(p)
			two, _ = impl.PackRead(p)
		})
		args[0].spoil()
		if !same(one, b) {
			t.Errorf("behind a caller's writing the batch %d has become %+v", i, one)
		}
		sayApart(t, "PackRead", append(args, batchesLists("answer", []impl.Batch{one, two})...))
		sayRead(t, packForm(b), b)
	}
}

func TestP15PacksAreNewMemory(t *testing.T) {
	for i := range sharedAndMore() {
		l := sharedAndMore()[i]
		args := recsLists("l", l)
		var one, two []impl.Pack
		sayUnchanged(t, "Packs", args, func() {
			one, _ = impl.Packs(l, 0)
			two, _ = impl.Packs(l, 0)
		})
		if len(one) != 3 || !same(one, two) {
			t.Errorf("Packs is %+v, and then %+v", one, two)
		}
		sayNoneShared(t, "Packs", args, append(packsLists("one", one), packsLists("two", two)...))
	}
}

func TestP15PackCutIsNewMemory(t *testing.T) {
	for _, s := range []string{"", "a", "abcdef", packForm(setUpBatch())} {
		for n := -1; n <= len(s)+4; n++ {
			p := packOf(s)
			args := packLists("p", p)
			var one, two impl.Pack
			sayUnchanged(t, "PackCut", args, func() { one, two = impl.PackCut(p, n), impl.PackCut(p, n) })
			sayApart(t, "PackCut", slices.Concat(args, packLists("one", one), packLists("two", two)))
		}
	}
}

func TestP15ArgumentsOfPacketsStay(t *testing.T) {
	wrong := []impl.Batch{{}, batchOf(9, 9, putPart(1)), batchOf(5, 4, manyParts(61)...), batchOf(5, 4, partOf(put(1), "k k k k k k k k k", "k")), batchOf(5, 4, partOf(put(1), "k", "K"))}
	for _, s := range wrongStmts() {
		wrong = append(wrong, batchOf(5, 4, putPart(1), partOf(s, "k", "k")))
	}
	right := batchOf(5, 4, drifting()...)
	for _, b := range wrong {
		sayUnchanged(t, "a wrong batch", batchesLists("b", []impl.Batch{b, right}), func() {
			impl.BatchOk(b)
			impl.PackOf(b)
			impl.SameBatch(b, b)
			impl.SameBatch(b, right)
			impl.SameBatch(right, b)
			impl.SameBatch(right, right)
		})
	}
	for _, s := range []string{"", "P", "P\x00\x01\x00\x00\x00", packForm(right), packForm(right) + "\x00", strings.Repeat("\xff", 50)} {
		p := packOf(s)
		sayUnchanged(t, "a packet", packLists("p", p), func() { impl.PackRead(p) })
	}
	for _, l := range append(rightLogs(), wrongLogs()...) {
		l := roomy(l)
		sayUnchanged(t, "a log", recsLists("l", l), func() { impl.Packs(l, 0) })
	}
}
