package tests

import (
	"math"
	"regexp"
	"slices"
	"strconv"
	"strings"
	"testing"

	"loop.example/g00462/impl"
)

func begin(xid int) impl.Rec { return impl.Rec{Kind: impl.RecBegin, Xid: xid} }

func does(xid int, s impl.Stmt) impl.Rec { return impl.Rec{Kind: impl.RecStmt, Xid: xid, Stmt: s} }

func commit(xid int) impl.Rec { return impl.Rec{Kind: impl.RecCommit, Xid: xid} }

func abort(xid int) impl.Rec { return impl.Rec{Kind: impl.RecAbort, Xid: xid} }

// doing is a transaction that has begun and has these statements.
func doing(xid int, l ...impl.Stmt) []impl.Rec {
	out := []impl.Rec{begin(xid)}
	for _, s := range l {
		out = append(out, does(xid, s))
	}
	return out
}

func committed(xid int, l ...impl.Stmt) []impl.Rec { return append(doing(xid, l...), commit(xid)) }

func aborted(xid int, l ...impl.Stmt) []impl.Rec { return append(doing(xid, l...), abort(xid)) }

func logOf(parts ...[]impl.Rec) []impl.Rec { return roomy(slices.Concat(parts...)) }

// setUp makes a table named b as plainDb has it.
func setUp(xid int) []impl.Rec { return committed(xid, change(create(tableOf("b", "k x", "k")))) }

func put(n int) impl.Stmt { return insert("b", plainRow(n)) }

// storeWith is what setUp makes, with these rows.
func storeWith(keys ...int) impl.Db {
	var rows []impl.Row
	for _, k := range keys {
		rows = append(rows, plainRow(k))
	}
	return with(plainDb(0), 0, rows)
}

// Chapter 8 a second time, in another way than the program does it: each
// question is asked of the whole list anew.
func endsIn(l []impl.Rec, xid int) bool {
	return slices.ContainsFunc(l, func(r impl.Rec) bool {
		return r.Xid == xid && (r.Kind == impl.RecCommit || r.Kind == impl.RecAbort)
	})
}

// openIn asks for the first begin of each Xid that has no end behind it.
func openIn(l []impl.Rec) []int {
	var out []int
	for i, r := range l {
		if r.Kind == impl.RecBegin && !endsIn(l[i:], r.Xid) && !slices.Contains(out, r.Xid) {
			out = append(out, r.Xid)
		}
	}
	return out
}

func usedIn(l []impl.Rec, xid int) bool {
	n := 0
	for _, r := range l {
		if r.Xid == xid && r.Kind == impl.RecBegin {
			n++
		}
	}
	return n > 0
}

func stmtsIn(l []impl.Rec, xid int) []impl.Stmt {
	var out []impl.Stmt
	for _, r := range l {
		if r.Xid == xid && r.Kind == impl.RecStmt {
			out = append(out, r.Stmt)
		}
	}
	return out
}

// storeIn is the store of the commits, and whether they all do.
func storeIn(l []impl.Rec) (impl.Db, bool) {
	var d impl.Db
	for i, r := range l {
		if r.Kind != impl.RecCommit {
			continue
		}
		next, code, _ := impl.ExecAll(d, stmtsIn(l[:i], r.Xid))
		if code != 0 {
			return impl.Db{}, false
		}
		d = next
	}
	return d, true
}

func isLog(l []impl.Rec) bool {
	if len(l) > 400 {
		return false
	}
	for i, r := range l {
		known := slices.ContainsFunc(l[:i], func(x impl.Rec) bool { return x.Xid == r.Xid })
		if !impl.RecOk(r) || known == (r.Kind == impl.RecBegin) || endsIn(l[:i], r.Xid) {
			return false
		}
	}
	_, ok := storeIn(l)
	return ok
}

func codeIn(l []impl.Rec, r impl.Rec) int {
	switch {
	case !isLog(l) || !impl.RecOk(r):
		return 1
	case r.Kind == impl.RecBegin && usedIn(l, r.Xid):
		return 2
	case r.Kind != impl.RecBegin && !slices.Contains(openIn(l), r.Xid):
		return 3
	case len(l) == 400:
		return 4
	case !isLog(append(roomy(l), r)):
		return 5
	}
	return 0
}

// come is the call that puts such a record behind the others.
func come(l []impl.Rec, r impl.Rec) ([]impl.Rec, int) {
	switch r.Kind {
	case impl.RecBegin:
		return impl.Begin(l, r.Xid)
	case impl.RecStmt:
		return impl.Do(l, r.Xid, r.Stmt)
	case impl.RecCommit:
		return impl.Commit(l, r.Xid)
	}
	return impl.Abort(l, r.Xid)
}

// sayCome asks for that code, and for the record behind the others or nothing.
func sayCome(t *testing.T, what string, l []impl.Rec, r impl.Rec, want int) {
	t.Helper()
	got, code := come(l, r)
	if code != want {
		t.Errorf("%s: %s behind %d records tells %d, not %d", what, showOf(r), len(l), code, want)
	}
	var log []impl.Rec
	if want == 0 {
		log = append(roomy(l), r)
	}
	if !same(got, log) {
		t.Errorf("%s: %s makes %+v, not %+v", what, showOf(r), got, log)
	}
}

func sayLog(t *testing.T, what string, l []impl.Rec, want bool) {
	t.Helper()
	if got := impl.LogOk(l); got != want {
		t.Errorf("%s: LogOk(%+v) is %v", what, l, got)
	}
}

func sayStore(t *testing.T, what string, l []impl.Rec, n int, want impl.Db) {
	t.Helper()
	if got, ok := impl.DbAt(l, n); !ok || !same(got, want) {
		t.Errorf("%s: the store at %d of %+v is %+v, %v; not %+v", what, n, l, got, ok, want)
	}
}

func sayNoStore(t *testing.T, what string, l []impl.Rec, n int) {
	t.Helper()
	if got, ok := impl.DbAt(l, n); ok || !same(got, impl.Db{}) {
		t.Errorf("%s: the store at %d of %+v is %+v, %v", what, n, l, got, ok)
	}
}

func rightRecs() []impl.Rec {
	var l []impl.Rec
	for _, xid := range []int{1, 2, 9, 10, 999999, impl.MaxXid} {
		l = append(l, begin(xid), commit(xid), abort(xid), does(xid, put(3)), does(xid, change(drop("b"))))
	}
	for _, s := range rightStmts() {
		l = append(l, does(7, s))
	}
	return l
}

// wrongXids are no Xids.
func wrongXids() []int {
	return []int{0, -1, -impl.MaxXid, impl.MaxXid + 1, impl.MaxXid + 2, math.MaxInt, math.MinInt}
}

func wrongRecs() []impl.Rec {
	l := []impl.Rec{{}, {Xid: 1}, {Kind: impl.RecBegin}, {Kind: impl.RecStmt, Xid: 1}, {Kind: impl.RecStmt, Stmt: put(3)}}
	for _, kind := range []int{0, -1, 5, 6, math.MaxInt, math.MinInt} {
		l = append(l, impl.Rec{Kind: kind, Xid: 1}, impl.Rec{Kind: kind, Xid: 1, Stmt: put(3)})
	}
	for _, xid := range wrongXids() {
		l = append(l, begin(xid), commit(xid), abort(xid), does(xid, put(3)))
	}
	parts := []impl.Stmt{
		put(3), empty("b"), change(drop("b")), {Kind: impl.StClear}, {Kind: -1}, {Table: "b"}, {Key: intKey(1)}, {Key: []impl.Val{{}}}, {Row: plainRow(1)},
		{Row: impl.Row{Vals: []impl.Val{{}}}}, {Ddl: drop("b")}, {Ddl: impl.Ddl{Kind: 1}}, {Ddl: impl.Ddl{Table: "b"}}, {Ddl: impl.Ddl{Cols: []impl.Col{{}}}},
		{Ddl: impl.Ddl{Keys: []string{""}}}, {Ddl: impl.Ddl{Name: "x"}}, {Ddl: impl.Ddl{To: "x"}},
	}
	for _, s := range parts {
		for _, r := range []impl.Rec{begin(1), commit(1), abort(1)} {
			r.Stmt = s
			l = append(l, r)
		}
	}
	for _, s := range wrongStmts() {
		l = append(l, does(1, s))
	}
	return l
}

func TestP15ChapterEightConstants(t *testing.T) {
	if impl.MaxRecs != 400 || impl.MaxXid != 1000000 {
		t.Errorf("MaxRecs %d, MaxXid %d", impl.MaxRecs, impl.MaxXid)
	}
	if kinds := [4]int{impl.RecBegin, impl.RecStmt, impl.RecCommit, impl.RecAbort}; kinds != [4]int{1, 2, 3, 4} {
		t.Errorf("kinds %v", kinds)
	}
}

func TestP15RecOk(t *testing.T) {
	for _, r := range rightRecs() {
		if !impl.RecOk(r) {
			t.Errorf("RecOk(%+v) is false", r)
		}
	}
	for _, r := range wrongRecs() {
		if impl.RecOk(r) {
			t.Errorf("RecOk(%+v) is true", r)
		}
	}
	none := impl.Stmt{Key: []impl.Val{}, Row: impl.Row{Vals: []impl.Val{}}, Ddl: impl.Ddl{Cols: []impl.Col{}, Keys: []string{}}}
	for _, r := range []impl.Rec{begin(1), commit(1), abort(1)} {
		r.Stmt = none
		if !impl.RecOk(r) {
			t.Errorf("RecOk(%+v) with empty lists is false", r)
		}
	}
	if impl.RecOk(does(1, none)) {
		t.Error("RecOk of a statement that is none is true")
	}
}

func TestP15Open(t *testing.T) {
	for _, c := range []struct {
		l    []impl.Rec
		want []int
	}{
		{nil, nil}, {[]impl.Rec{}, nil}, {[]impl.Rec{begin(5)}, []int{5}}, {[]impl.Rec{begin(5), begin(3), begin(4)}, []int{5, 3, 4}},
		{[]impl.Rec{begin(5), begin(3), begin(4), commit(3)}, []int{5, 4}}, {[]impl.Rec{begin(5), begin(3), begin(4), abort(5)}, []int{3, 4}},
		{[]impl.Rec{begin(5), begin(3), begin(5)}, []int{5, 3}}, {[]impl.Rec{begin(5), begin(3), begin(5), commit(5)}, []int{3}},
		{[]impl.Rec{begin(5), begin(3), commit(5), begin(5)}, []int{3, 5}}, {[]impl.Rec{begin(5), begin(3), abort(5), begin(4), begin(5)}, []int{3, 4, 5}},
		{[]impl.Rec{commit(5), abort(5), begin(5)}, []int{5}}, {[]impl.Rec{commit(5), abort(3)}, nil}, {[]impl.Rec{begin(5), commit(5), abort(5), commit(5)}, nil},
		{[]impl.Rec{does(5, put(1))}, nil}, {[]impl.Rec{begin(5), does(5, put(1)), does(6, put(1)), does(5, impl.Stmt{})}, []int{5}},
		{[]impl.Rec{begin(5), {Xid: 5}, {Kind: 5, Xid: 5}, {Kind: -1, Xid: 5}, {Kind: 5, Xid: 6}, {Xid: 6}}, []int{5}},
		{[]impl.Rec{begin(0), begin(-1), begin(impl.MaxXid + 1), begin(math.MinInt), commit(-1)}, []int{0, impl.MaxXid + 1, math.MinInt}},
		{[]impl.Rec{{Kind: impl.RecBegin, Xid: 5, Stmt: put(1)}, begin(6), {Kind: impl.RecCommit, Xid: 6, Stmt: put(1)}}, []int{5}},
	} {
		if got := impl.Open(c.l); !slices.Equal(got, c.want) {
			t.Errorf("Open(%+v) is %v, not %v", c.l, got, c.want)
		}
	}
}

func TestP15OpenOfMoreRecordsThanALogHas(t *testing.T) {
	var l []impl.Rec
	var want []int
	for i := 1; i < 3*impl.MaxRecs; i++ {
		l = append(l, begin(i), begin(-i))
		if i%3 == 0 {
			l = append(l, commit(i))
		} else {
			want = append(want, i)
		}
		want = append(want, -i)
	}
	l = append(l, begin(0))
	if got := impl.Open(l); !slices.Equal(got, append(want, 0)) {
		t.Errorf("Open is %v, not %v", got, append(want, 0))
	}
	if !impl.Used(l, 3*impl.MaxRecs-1) || impl.Used(l, 3*impl.MaxRecs) || impl.LogOk(l) {
		t.Error("a list that is too long")
	}
}

func TestP15Used(t *testing.T) {
	l := []impl.Rec{begin(5), does(5, put(1)), does(6, put(1)), commit(5), begin(7), commit(8), abort(9), begin(0), begin(-3), begin(7), {Kind: 5, Xid: 10}, {Xid: 11}, begin(impl.MaxXid + 1), {Kind: impl.RecBegin, Xid: 12, Stmt: put(1)}}
	for xid, want := range map[int]bool{
		5: true, 6: false, 7: true, 8: false, 9: false, 0: true, -3: true, 10: false, 11: false, 12: true, 1: false, impl.MaxXid: false, impl.MaxXid + 1: true, math.MaxInt: false, math.MinInt: false,
	} {
		if got := impl.Used(l, xid); got != want {
			t.Errorf("Used of %d is %v", xid, got)
		}
		if impl.Used(nil, xid) || impl.Used([]impl.Rec{}, xid) {
			t.Errorf("Used of %d in no records is true", xid)
		}
	}
	if impl.Used(l[1:4], 5) || !impl.Used([]impl.Rec{begin(5), commit(5)}, 5) {
		t.Error("Used asks for more or less than the RecBegin")
	}
}

func TestP15StmtsOf(t *testing.T) {
	odd := impl.Stmt{Kind: 9, Key: []impl.Val{{Ty: 9}}}
	l := []impl.Rec{
		begin(5), does(5, put(3)), does(6, put(4)), does(5, put(1)), commit(5), does(5, put(3)), begin(5), does(5, odd), {Kind: impl.RecBegin, Xid: 5, Stmt: put(8)},
		{Kind: 5, Xid: 5, Stmt: put(8)}, does(0, empty("b")), does(-1, impl.Stmt{}), does(6, change(create(mixedTable()))),
	}
	for xid, want := range map[int][]impl.Stmt{
		5: {put(3), put(1), put(3), odd}, 6: {put(4), change(create(mixedTable()))}, 0: {empty("b")}, -1: {{}}, 1: nil, 7: nil, math.MaxInt: nil, math.MinInt: nil,
	} {
		if got := impl.StmtsOf(l, xid); !same(got, want) {
			t.Errorf("StmtsOf %d is %+v", xid, got)
		}
		if got := impl.StmtsOf(nil, xid); len(got) != 0 {
			t.Errorf("StmtsOf %d in no records is %+v", xid, got)
		}
	}
	for _, s := range rightStmts() {
		if got := impl.StmtsOf([]impl.Rec{does(1, s), does(2, put(0)), does(1, s)}, 1); !same(got, []impl.Stmt{s, s}) {
			t.Errorf("StmtsOf is %+v, not %+v twice", got, s)
		}
	}
}

// rightLogs are logs with transactions of every kind.
func rightLogs() [][]impl.Rec {
	b := setUp(1)
	l := [][]impl.Rec{
		nil, {}, {begin(1)}, {begin(impl.MaxXid)}, {begin(9), begin(3), begin(6)}, committed(1), aborted(1), committed(impl.MaxXid), b, setUp(impl.MaxXid),
		doing(1, put(1)), aborted(1, put(1)), aborted(1, change(drop("none")), empty("none")), logOf(aborted(1, put(1)), setUp(2)), logOf(b, committed(2, put(1), put(2)), committed(3, put(3))),
		logOf(b, doing(3, put(1)), committed(2, put(1)), []impl.Rec{abort(3)}), logOf(b, doing(3, put(1)), committed(2, put(1))), logOf(b, doing(3, put(1)), aborted(2, put(1)), []impl.Rec{commit(3)}),
		logOf(b, committed(2, put(1), remove("b", intKey(1)), put(1))), logOf(b, committed(2, put(1)), committed(3, update("b", intKey(1), plainRow(4))), committed(4, put(1))),
		logOf(b, committed(2, put(1)), committed(3, empty("b")), committed(4, put(1))), logOf(b, committed(2, put(1)), committed(3, change(drop("b"))), setUp(4), committed(5, put(1))),
		logOf(doing(2, put(7)), setUp(1), []impl.Rec{does(2, put(5)), commit(2)}), logOf(committed(1, longList()...)), logOf(doing(3), doing(2), committed(1, longList()...), []impl.Rec{abort(2), commit(3)}),
		logOf(b, committed(2, change(add("b", defCol("n", true, intVal(4))))), committed(3, insert("b", rowOf(intVal(1), impl.Val{}, intVal(2)))), committed(4, change(outOf("b", "x"))), committed(5, insert("b", rowOf(intVal(2), intVal(2))))),
		logOf(b, committed(2, change(rename("b", "k", "n"))), committed(3, put(1))),
	}
	var long []impl.Rec
	for i, s := range longList() {
		long = append(long, committed(20-i, s)...)
	}
	return append(l, long, slices.Insert(slices.Clone(long), 7, begin(40), does(40, empty("none")), begin(41)), clearLog(impl.MaxRecs), doneLog(impl.MaxRecs), doneLog(impl.MaxRecs-1))
}

// clearLog has n records, from 5 on: what setUp makes, a row, and one
// transaction that is open and has all the rest.
func clearLog(n int) []impl.Rec {
	l := logOf(setUp(1), []impl.Rec{begin(2), does(2, put(1))})
	for len(l) < n {
		l = append(l, does(2, empty("b")))
	}
	return roomy(l)
}

// doneLog has n records: transactions that do nothing, the last of which is
// open where n is odd.
func doneLog(n int) []impl.Rec {
	var l []impl.Rec
	for i := range n {
		switch {
		case i%2 == 0:
			l = append(l, begin(i/2+1))
		case i%4 == 1:
			l = append(l, commit(i/2+1))
		default:
			l = append(l, abort(i/2+1))
		}
	}
	return roomy(l)
}

// wrongLogs are right but for one thing, which comes first, last or between.
func wrongLogs() [][]impl.Rec {
	b := setUp(1)
	l := [][]impl.Rec{
		{commit(1)}, {abort(1)}, {does(1, put(1))}, {begin(1), commit(2)}, {begin(1), abort(2)}, {begin(1), does(2, put(1))}, {begin(1), begin(1)}, {begin(1), begin(2), begin(1)},
		{begin(1), commit(1), begin(1)}, {begin(1), abort(1), begin(1)}, {begin(1), commit(1), commit(1)}, {begin(1), abort(1), commit(1)}, {begin(1), commit(1), abort(1)}, {begin(1), abort(1), does(1, put(1))},
		{begin(1), commit(1), does(1, put(1))}, {commit(1), begin(1)}, {does(1, put(1)), begin(1)}, {begin(1), abort(1), begin(2), does(1, put(1))}, {begin(1), does(1, put(1)), begin(1)},
		committed(1, put(1)), committed(1, change(drop("b"))), committed(1, change(create(plainTable())), change(create(plainTable()))), logOf(b, committed(2, put(1), put(1))), logOf(b, setUp(2)),
		logOf(b, committed(2, put(1)), committed(3, put(1))), logOf(b, committed(2, put(1)), committed(3, put(1)), committed(4, put(2))), logOf(b, committed(2, remove("b", intKey(1)), put(1))),
		logOf(b, aborted(2, put(1)), committed(3, remove("b", intKey(1)))), logOf(b, doing(2, put(1)), committed(3, remove("b", intKey(1)))), logOf(b, doing(2, put(1)), committed(3, remove("b", intKey(1))), []impl.Rec{commit(2)}),
		logOf(doing(2, put(7)), []impl.Rec{commit(2)}, b), logOf(b, doing(3, put(1)), committed(2, put(1)), []impl.Rec{commit(3)}), logOf(b, committed(2, change(drop("b"))), committed(3, put(1))),
		logOf(b, committed(2, change(drop("b")), put(1))), logOf(b, committed(2, change(outOf("b", "x"))), committed(3, put(1))), logOf(aborted(1, change(create(tableOf("b", "k x", "k")))), committed(2, put(1))),
		clearLog(impl.MaxRecs + 1), doneLog(impl.MaxRecs + 1), doneLog(impl.MaxRecs + 2), doneLog(3 * impl.MaxRecs),
	}
	for _, r := range wrongRecs() {
		l = append(l, []impl.Rec{r}, []impl.Rec{begin(1), r})
	}
	for i, r := range []impl.Rec{{}, {Kind: 5, Xid: 1}, begin(0), begin(impl.MaxXid + 1), does(2, impl.Stmt{}), {Kind: impl.RecBegin, Xid: 9, Stmt: put(1)}, {Kind: impl.RecCommit, Xid: 2, Stmt: put(1)}} {
		right := logOf(b, committed(2, put(1)))
		for at := range len(right) + 1 {
			if i < 4 || at >= 4 {
				l = append(l, slices.Insert(slices.Clone(right), at, r))
			}
		}
	}
	return l
}

func TestP15LogOk(t *testing.T) {
	for _, l := range rightLogs() {
		sayLog(t, "a right log", l, true)
		for n := range l {
			sayLog(t, "the beginning of a right log", l[:n], true)
		}
	}
	for _, l := range wrongLogs() {
		sayLog(t, "a wrong log", l, false)
	}
}

func TestP15LogOkAtTheMostRecords(t *testing.T) {
	for n := 5; n < impl.MaxRecs+5; n++ {
		sayLog(t, strconv.Itoa(n)+" records of a transaction", clearLog(n), n <= 400)
		sayLog(t, strconv.Itoa(n)+" records of many", doneLog(n), n <= 400)
	}
}

// TestP15WhatCommitsDo asks that a commit stands in a log just where its
// statements go on the store as it is then.
func TestP15WhatCommitsDo(t *testing.T) {
	ahead := committed(1, change(create(tableOf("b", "k x", "k"))), put(0), put(2), put(4), change(create(mixedTable())), insert("mix", mixedRow("a", 3)))
	d, code, at := impl.ExecAll(impl.Db{}, stmtsIn(ahead, 1))
	if code != 0 || at != 0 {
		t.Fatalf("what stands ahead tells %d at %d", code, at)
	}
	seen := map[int]int{}
	for i, s := range rightStmts() {
		want, code := impl.Exec(d, s)
		seen[code]++
		l := logOf(ahead, doing(2, s))
		sayLog(t, "one that is open", l, true)
		if i%5 == 0 || code == 0 {
			sayStore(t, "one that is open", l, len(l), d)
			sayLog(t, "one that aborts", append(slices.Clone(l), abort(2)), true)
		}
		done := append(slices.Clone(l), commit(2))
		sayLog(t, "one that commits", done, code == 0)
		if code != 0 {
			sayCome(t, "one that can't", l, commit(2), 5)
			continue
		}
		sayCome(t, "one that can", l, commit(2), 0)
		sayStore(t, "one that commits", done, len(done), want)
		sayStore(t, "one that will commit", done, len(done)-1, d)
	}
	for _, code := range []int{0, 4, 12, 15} {
		if seen[code] == 0 {
			t.Errorf("code %d never came", code)
		}
	}
}

// eachList goes over all lists of up to n of these records.
func eachList(some []impl.Rec, n int, tell func([]impl.Rec)) {
	var grow func(l []impl.Rec)
	grow = func(l []impl.Rec) {
		tell(l)
		if len(l) == n {
			return
		}
		for _, r := range some {
			grow(append(slices.Clone(l), r))
		}
	}
	grow(nil)
}

// fewRecs make right and wrong logs: the second transaction goes only behind
// the first one, and that only once.
func fewRecs() []impl.Rec {
	x := change(create(tableOf("b", "k x", "k")))
	return []impl.Rec{begin(1), does(1, x), commit(1), abort(1), begin(2), does(2, put(1)), commit(2), abort(2), {Kind: 5, Xid: 1}}
}

func TestP15ShortLists(t *testing.T) {
	right := 0
	eachList(fewRecs(), 5, func(l []impl.Rec) {
		want := isLog(l)
		if want {
			right++
		}
		if got := impl.LogOk(l); got != want {
			t.Errorf("LogOk(%+v) is %v", l, got)
		}
		if got := impl.Open(l); !slices.Equal(got, openIn(l)) {
			t.Errorf("Open(%+v) is %v", l, got)
		}
		if !want && len(l) > 3 {
			return
		}
		for _, r := range slices.Concat(fewRecs()[:8], []impl.Rec{begin(0), begin(3), does(1, impl.Stmt{}), does(2, change(drop("b"))), commit(3)}) {
			sayCome(t, "a short list", l, r, codeIn(l, r))
		}
	})
	if right < 200 {
		t.Errorf("only %d of the lists are right", right)
	}
}

func TestP15StoresOfShortLists(t *testing.T) {
	made := 0
	eachList(fewRecs(), 5, func(l []impl.Rec) {
		if !isLog(l) {
			if len(l) < 4 {
				for n := -1; n <= len(l)+1; n++ {
					sayNoStore(t, "a wrong log", l, n)
				}
			}
			return
		}
		for n := range len(l) + 1 {
			want, _ := storeIn(l[:n])
			sayStore(t, "a short log", l, n, want)
			made += len(want.Data)
		}
		sayNoStore(t, "one too many", l, len(l)+1)
		sayNoStore(t, "one below 0", l, -1)
	})
	if made == 0 {
		t.Error("no store has a table")
	}
}

// mixtures are all lists that have the records of each of these in order.
func mixtures(parts ...[]impl.Rec) [][]impl.Rec {
	var out [][]impl.Rec
	for i, p := range parts {
		if len(p) == 0 {
			continue
		}
		rest := slices.Clone(parts)
		rest[i] = p[1:]
		for _, m := range mixtures(rest...) {
			out = append(out, append([]impl.Rec{p[0]}, m...))
		}
	}
	if out == nil {
		return [][]impl.Rec{nil}
	}
	return out
}

func TestP5TransactionsSideBySide(t *testing.T) {
	ahead := logOf(setUp(1), committed(2, put(9)))
	two, three, four := committed(12, put(1), put(3)), committed(11, empty("b")), aborted(13, put(1), change(drop("b")))
	all := mixtures(two, three, four)
	if len(all) != 11550 {
		t.Fatalf("%d mixtures", len(all))
	}
	for i, m := range all {
		l := logOf(ahead, m)
		sayLog(t, "a mixture", l, true)
		if i%5 != 0 {
			continue
		}
		want := storeWith(9)
		for n := len(ahead); n <= len(l); n++ {
			switch r := l[n-1]; {
			case same(r, commit(11)):
				want = storeWith()
			case same(r, commit(12)) && same(want, storeWith(9)):
				want = storeWith(1, 3, 9)
			case same(r, commit(12)):
				want = storeWith(1, 3)
			}
			sayStore(t, "a mixture", l, n, want)
		}
	}
}

// TestP5TheOrderOfCommitsCounts has two that can't both go, and two of which
// the one needs the other.
func TestP5TheOrderOfCommitsCounts(t *testing.T) {
	for _, m := range mixtures(committed(2, put(1)), committed(3, put(1))) {
		sayLog(t, "both put one row", logOf(setUp(1), m), false)
	}
	for _, m := range mixtures(committed(2, put(1)), aborted(3, put(1))) {
		l := logOf(setUp(1), m)
		sayLog(t, "one of both aborts", l, true)
		sayStore(t, "one of both aborts", l, len(l), storeWith(1))
	}
	right := 0
	for _, m := range mixtures(committed(2, remove("b", intKey(1)), put(5)), committed(3, put(1), put(2))) {
		l := logOf(setUp(1), m)
		want := m[len(m)-1].Xid == 2
		sayLog(t, "the one needs the other", l, want)
		if want {
			sayStore(t, "the one needs the other", l, len(l), storeWith(2, 5))
			right++
		}
	}
	if right == 0 {
		t.Error("none of the mixtures is right")
	}
}

// onlyCommitted leaves the records out of all that has no commit among them.
func onlyCommitted(l []impl.Rec) []impl.Rec {
	var out []impl.Rec
	for _, r := range l {
		if slices.ContainsFunc(l, func(x impl.Rec) bool { return x.Kind == impl.RecCommit && x.Xid == r.Xid }) {
			out = append(out, r)
		}
	}
	return out
}

func TestP5WhatIsNotCommittedChangesNothing(t *testing.T) {
	for _, l := range rightLogs() {
		for n := range len(l) + 1 {
			if len(l) > 100 && n%40 != 0 {
				continue
			}
			want, ok := storeIn(l[:n])
			if !ok {
				t.Fatalf("no store at %d of %+v", n, l)
			}
			sayStore(t, "a log", l, n, want)
			sayStore(t, "its beginning", l[:n], n, want)
			less := onlyCommitted(l[:n])
			sayStore(t, "without what isn't committed", less, len(less), want)
		}
	}
}

func TestP5OnlyACommitChangesTheStore(t *testing.T) {
	for _, l := range rightLogs() {
		if len(l) > 100 {
			continue
		}
		was, _ := impl.DbAt(l, len(l))
		for _, r := range []impl.Rec{begin(77), does(77, put(8)), abort(77)} {
			next, code := come(l, r)
			if code != 0 {
				t.Fatalf("%+v behind %+v tells %d", r, l, code)
			}
			l = next
			sayStore(t, "behind "+showOf(r.Kind), l, len(l), was)
		}
		for _, xid := range impl.Open(l) {
			if done, code := impl.Abort(l, xid); code != 0 {
				t.Errorf("Abort of %d tells %d", xid, code)
			} else {
				sayStore(t, "behind an abort", done, len(done), was)
			}
			done, code := impl.Commit(l, xid)
			want, wantCode, _ := impl.ExecAll(was, impl.StmtsOf(l, xid))
			if code == 0 && wantCode == 0 {
				sayStore(t, "behind a commit", done, len(done), want)
				sayStore(t, "ahead of a commit", done, len(l), was)
			} else if code != 5 || wantCode == 0 {
				t.Errorf("Commit of %d tells %d, its statements %d", xid, code, wantCode)
			}
		}
	}
}

func TestP15DbAtPlaces(t *testing.T) {
	l := logOf(setUp(1), committed(2, put(1)), doing(3, put(2)), committed(4, put(3)))
	for n, want := range []impl.Db{{}, {}, {}, storeWith(), storeWith(), storeWith(), storeWith(1), storeWith(1), storeWith(1), storeWith(1), storeWith(1), storeWith(1, 3)} {
		sayStore(t, "places", l, n, want)
	}
	for _, n := range []int{-1, -2, -len(l), len(l) + 1, len(l) + 2, cap(l), impl.MaxRecs, math.MaxInt, math.MinInt} {
		sayNoStore(t, "no place", l, n)
	}
	sayStore(t, "no records", nil, 0, impl.Db{})
	sayNoStore(t, "no records", nil, 1)
	sayNoStore(t, "no records", nil, -1)
	full := clearLog(impl.MaxRecs)
	sayStore(t, "the most records", full, impl.MaxRecs, storeWith())
	sayNoStore(t, "the most records", full, impl.MaxRecs+1)
	sayNoStore(t, "one too many", clearLog(impl.MaxRecs+1), 3)
	for _, l := range wrongLogs() {
		for _, n := range []int{-1, 0, 1, len(l)} {
			sayNoStore(t, "a wrong log", l, n)
		}
	}
}

func TestP15RecordsThatCome(t *testing.T) {
	l := logOf(setUp(1), doing(3, put(1)), []impl.Rec{begin(2)}, aborted(4))
	for _, xid := range []int{5, 6, 999999, impl.MaxXid} {
		sayCome(t, "a begin", l, begin(xid), 0)
		sayCome(t, "a begin of no records", nil, begin(xid), 0)
		for _, r := range []impl.Rec{does(xid, put(1)), commit(xid), abort(xid)} {
			sayCome(t, "another transaction", l, r, 3)
			sayCome(t, "another transaction", nil, r, 3)
		}
	}
	sayCome(t, "a begin of no records", nil, begin(1), 0)
	for _, xid := range []int{2, 3} {
		for _, r := range []impl.Rec{does(xid, put(7)), does(xid, change(create(mixedTable()))), does(xid, empty("none")), commit(xid), abort(xid)} {
			sayCome(t, "what is open", l, r, 0)
		}
		sayCome(t, "what is open", l, begin(xid), 2)
	}
	for _, xid := range []int{1, 4} {
		sayCome(t, "what has ended", l, begin(xid), 2)
		for _, r := range []impl.Rec{does(xid, put(7)), commit(xid), abort(xid)} {
			sayCome(t, "what has ended", l, r, 3)
		}
	}
	for _, s := range rightStmts() {
		sayCome(t, "every statement", l, does(3, s), 0)
	}
	sayCome(t, "a commit that can't", append(l, does(3, put(1))), commit(3), 5)
	sayCome(t, "an abort of one that can't", append(l, does(3, put(1))), abort(3), 0)
	sayCome(t, "a commit of another", append(l, does(3, put(1))), commit(2), 0)
}

func TestP15RecordsThatAreNotRight(t *testing.T) {
	l := logOf(setUp(1), doing(2), doing(3, put(1)))
	for _, log := range [][]impl.Rec{nil, l, clearLog(impl.MaxRecs)} {
		for _, xid := range wrongXids() {
			for _, r := range []impl.Rec{begin(xid), does(xid, put(1)), does(xid, impl.Stmt{}), commit(xid), abort(xid)} {
				sayCome(t, "a wrong Xid", log, r, 1)
			}
		}
	}
	for i, s := range wrongStmts() {
		for _, xid := range []int{1, 2, 3, 9} {
			sayCome(t, "a wrong statement", l, does(xid, s), 1)
		}
		if i%50 == 0 {
			sayCome(t, "a wrong statement", clearLog(impl.MaxRecs), does(2, s), 1)
		}
	}
	for _, l := range wrongLogs() {
		for _, r := range []impl.Rec{begin(1), begin(50), does(1, put(1)), commit(1), abort(1), commit(2), abort(2), does(2, impl.Stmt{}), begin(0)} {
			sayCome(t, "a wrong log", l, r, 1)
		}
	}
}

func TestP15CodesAtTheMostRecords(t *testing.T) {
	full, last := clearLog(impl.MaxRecs), clearLog(impl.MaxRecs-1)
	for _, c := range []struct {
		what string
		l    []impl.Rec
		r    impl.Rec
		code int
	}{
		{"used, and full", full, begin(2), 2}, {"used and ended, and full", full, begin(1), 2}, {"full", full, begin(3), 4}, {"the last", last, begin(3), 0},
		{"not open, and full", full, does(1, put(1)), 3}, {"full", full, does(2, put(1)), 4}, {"the last", last, does(2, put(1)), 0},
		{"not open, and full", full, abort(1), 3}, {"full", full, abort(2), 4}, {"the last", last, abort(2), 0},
		{"not open, and full", full, commit(3), 3}, {"full", full, commit(2), 4}, {"the last", last, commit(2), 0},
		{"not right, and full", full, begin(0), 1}, {"not right, and full", full, does(2, impl.Stmt{}), 1}, {"too many", clearLog(impl.MaxRecs + 1), commit(2), 1},
	} {
		sayCome(t, c.what, c.l, c.r, c.code)
	}
	for _, l := range [][]impl.Rec{clearLog(impl.MaxRecs), clearLog(impl.MaxRecs - 1)} {
		l[len(l)-1] = does(2, empty("none"))
		sayCome(t, "a commit that can't", l, commit(2), map[int]int{impl.MaxRecs: 4, impl.MaxRecs - 1: 5}[len(l)])
	}
	sayCome(t, "many that ended", doneLog(impl.MaxRecs), begin(1), 2)
	sayCome(t, "many that ended", doneLog(impl.MaxRecs), begin(900), 4)
	sayCome(t, "many that ended", doneLog(impl.MaxRecs-2), begin(900), 0)
	sayCome(t, "many that ended", doneLog(impl.MaxRecs-2), commit(1), 3)
}

// sayRestart asks for the aborts of these behind l.
func sayRestart(t *testing.T, what string, l []impl.Rec, xids ...int) {
	t.Helper()
	want := roomy(l)
	for _, xid := range xids {
		want = append(want, abort(xid))
	}
	got, n := impl.Restart(l)
	if n != len(xids) || !same(got, want) {
		t.Errorf("%s: Restart(%+v) is %+v, %d", what, l, got, n)
	}
	if !impl.LogOk(got) || len(impl.Open(got)) != 0 {
		t.Errorf("%s: behind a restart LogOk is %v and open is %v", what, impl.LogOk(got), impl.Open(got))
	}
	was, _ := impl.DbAt(l, len(l))
	sayStore(t, what, got, len(got), was)
}

func sayNoRestart(t *testing.T, what string, l []impl.Rec) {
	t.Helper()
	if got, n := impl.Restart(l); n != -1 || len(got) != 0 {
		t.Errorf("%s: Restart(%+v) is %+v, %d", what, l, got, n)
	}
}

func TestP5ARestartLeavesNothingOpen(t *testing.T) {
	sayRestart(t, "no records", nil)
	sayRestart(t, "one", []impl.Rec{begin(4)}, 4)
	sayRestart(t, "many", []impl.Rec{begin(9), begin(3), begin(6), commit(3), begin(impl.MaxXid), begin(1)}, 9, 6, impl.MaxXid, 1)
	sayRestart(t, "one that can't commit", logOf(setUp(1), doing(5, put(1), put(1)), doing(2, put(1))), 5, 2)
	for _, l := range rightLogs() {
		if xids := openIn(l); len(l)+len(xids) <= 400 {
			sayRestart(t, "a right log", l, xids...)
		} else {
			sayNoRestart(t, "too many", l)
		}
	}
	for _, l := range mixtures(committed(2, put(1)), aborted(3, put(1)), doing(4, put(1)), doing(5)) {
		log := logOf(setUp(1), l)
		sayRestart(t, "a mixture", log, openIn(log)...)
	}
}

func TestP15RestartAtTheMostRecords(t *testing.T) {
	sayRestart(t, "the most", doneLog(impl.MaxRecs))
	sayRestart(t, "one to come", doneLog(impl.MaxRecs-1), 200)
	sayRestart(t, "one to come", clearLog(impl.MaxRecs-1), 2)
	sayNoRestart(t, "one too many", clearLog(impl.MaxRecs))
	for n := impl.MaxRecs - 8; n <= impl.MaxRecs; n += 2 {
		for k := range 5 {
			l, xids := doneLog(n-k-(n-k)%2), []int(nil)
			for len(l) < n {
				xids = append(xids, 900-len(l))
				l = append(l, begin(900-len(l)))
			}
			if n+len(xids) <= 400 {
				sayRestart(t, "just so many", l, xids...)
			} else {
				sayNoRestart(t, "too many", l)
			}
		}
	}
	var half []impl.Rec
	var xids []int
	for i := range impl.MaxRecs / 2 {
		half = append(half, begin(impl.MaxXid-i))
		xids = append(xids, impl.MaxXid-i)
	}
	sayRestart(t, "as many as there are", half, xids...)
	sayNoRestart(t, "one more than there may be", append(half, begin(1)))
	for _, l := range wrongLogs() {
		sayNoRestart(t, "a wrong log", l)
	}
}

func sayRec(t *testing.T, r impl.Rec, s string) {
	t.Helper()
	sayText(t, r, s, impl.RecText, impl.TextRec)
}

func TestP15RecText(t *testing.T) {
	for _, xid := range []int{1, 2, 9, 10, 99, 100, 4711, 999999, 1000000} {
		n := strconv.Itoa(xid)
		sayRec(t, begin(xid), "begin "+n)
		sayRec(t, commit(xid), "commit "+n)
		sayRec(t, abort(xid), "abort "+n)
		sayRec(t, does(xid, insert("t", rowOf(intVal(5), textVal("x y"), impl.Val{}))), "do "+n+" insert t 5 'x%20y' null")
		sayRec(t, does(xid, empty("do")), "do "+n+" clear do")
	}
	sayRec(t, does(3, update("t", intKey(-5), rowOf(intVal(6), boolVal(1)))), "do 3 update t -5 to 6 true")
	sayRec(t, does(3, remove("begin", keyOf(textVal("do 3")))), "do 3 delete begin 'do%203'")
	sayRec(t, does(3, change(create(tableOf("t", "k x", "k")))), "do 3 create t ( k int not ) ( x text ) key k")
	sayRec(t, does(3, change(drop("commit"))), "do 3 drop commit")
	sayRec(t, does(3, change(add("t", defCol("n", true, intVal(4))))), "do 3 add t n int not =4")
	sayRec(t, does(3, change(outOf("t", "x"))), "do 3 out t x")
	sayRec(t, does(3, change(rename("t", "x", "y"))), "do 3 name t x y")
	for _, r := range rightRecs() {
		text := impl.RecText(r)
		if !isRecText(text) || r.Kind == impl.RecStmt && text != "do "+strconv.Itoa(r.Xid)+" "+impl.StmtText(r.Stmt) {
			t.Errorf("the text of %+v is %q", r, text)
		}
		sayRec(t, r, text)
	}
	sayNoText(t, wrongRecs(), impl.RecText)
}

// The texts of records as a grammar, as far as the one of statements goes.
var recText = regexp.MustCompile(`\A(?:(?:begin|commit|abort) (?:[1-9][0-9]{0,5}|1000000)|do (?:[1-9][0-9]{0,5}|1000000) (.*))\z`)

func isRecText(s string) bool {
	m := recText.FindStringSubmatch(s)
	return m != nil && (!strings.HasPrefix(s, "do ") || isStmtText(m[1]))
}

func TestP4TextsOfNoRecordAreNotRead(t *testing.T) {
	for _, word := range []string{"begin", "commit", "abort"} {
		for _, s := range []string{
			word, word + " ", word + "1", word + "  1", " " + word + " 1", word + " 1 ", word + " 1  ", word + " 1 1", word + " 1 clear t", word + " 1\n", word + "\n1", word + "\t1", word + " 1\x00", word + " 1\xff",
			word + " 0", word + " -1", word + " +1", word + " 01", word + " 001", word + " -0", word + " 1.", word + " 1e3", word + " 0x1", word + " a", word + " 1a", word + " '1'", word + " null", word + " true",
			word + " 1000001", word + " 1000002", word + " 10000000", word + " 1099511627775", word + " 1099511627776", word + " 9223372036854775807", word + " 9223372036854775808", word + " 18446744073709551617",
			strings.ToUpper(word) + " 1", strings.ToUpper(word[:1]) + word[1:] + " 1", word + "s 1", word[1:] + " 1", "1 " + word, word + " " + word, word + " \xc3\xa9", "\xff" + word + " 1", word + " 1 " + word + " 1", word + " 1\n" + word + " 1",
		} {
			sayNotRead(t, s, impl.TextRec)
		}
	}
	for _, s := range []string{
		"", " ", "  ", "\n", "\x00", "\xff", "1", "x 1", "stmt 1", "rec 1", "2 1", "do", "do ", "do 1", "do 1 ", "do 1  ", "do clear t", "do  1 clear t", "do 1  clear t", " do 1 clear t", "do 1 clear t ", "do 1 clear t\n",
		"do 1\nclear t", "Do 1 clear t", "DO 1 clear t", "does 1 clear t", "d 1 clear t", "do 0 clear t", "do -1 clear t", "do +1 clear t", "do 01 clear t", "do 1000001 clear t", "do x clear t", "do 1clear t", "do1 clear t",
		"do 1 1 clear t", "do 1 do 1 clear t", "do 1 begin 1", "do 1 commit 1", "do 1 clear", "do 1 clear ", "do 1 clear T", "do 1 clear t u", "do 1 insert t", "do 1 insert t 05", "do 1 insert t 'a b'", "do 1 insert t 5  6",
		"do 1 update t 5 6", "do 1 delete t", "do 1 create t", "do 1 create t ( k int ) key k", "do 1 create t ( k int not ) key", "do 1 drop", "do 1 add t n int not", "do 1 out t", "do 1 name t x", "do 1 x", "do 1 null",
		"clear t", "insert t 5", "do 1 insert t \xff", "do 1 clear t\x00", "do 1 clear t\ndo 1 clear t", "do 1 insert t" + strings.Repeat(" 1", impl.MaxCols+1), "do 1 insert t" + strings.Repeat(" 1", 5000),
		strings.Repeat("do ", 500), strings.Repeat(" ", 500), "begin " + strings.Repeat("1", 500), "begin " + strings.Repeat("0", 500) + "1",
	} {
		sayNotRead(t, s, impl.TextRec)
	}
	for _, s := range textsOfNoDdl() {
		sayNotRead(t, "do 1 "+s, impl.TextRec)
	}
	for _, s := range textsOfNoNum() {
		sayNotRead(t, "begin "+s, impl.TextRec)
		sayNotRead(t, "do "+s+" clear t", impl.TextRec)
	}
}

func TestP4TextsNearToRecords(t *testing.T) {
	for _, s := range []string{
		"begin 1", "begin 1000000", "begin 999999", "begin 90", "commit 7", "commit 100000", "abort 3", "abort 12", "do 1 clear t", "do 1000000 insert t 5 'a%20b' null", "do 20 update t 5 to 6 true", "do 3 delete do 'x' 0",
		"do 4 drop t", "do 5 add t n int not =4", "do 6 out t x", "do 7 name t x y", "do 8 create t ( k int not ) ( x text ='%25' ) key k",
	} {
		if !isRecText(s) {
			t.Errorf("%q is the text of no record", s)
		}
		sayReadWhere(t, s, isRecText, impl.RecText, impl.TextRec)
	}
	for n := -3; n < 2000; n++ {
		s := "begin " + strconv.Itoa(n)
		if _, ok := impl.TextRec(s); ok != (n >= 1) {
			t.Errorf("%q is read: %v", s, ok)
		}
	}
}

// recsLists tells of the records themselves only the Kind and the Xid.
func recsLists(name string, l []impl.Rec) []list {
	headOf := func(r impl.Rec) string { return strconv.Itoa(r.Kind) + " " + strconv.Itoa(r.Xid) }
	out := []list{listOf(name, l, impl.Rec{Kind: 9, Xid: -9}, headOf)}
	for i, r := range l {
		out = append(out, stmtLists(name+"["+strconv.Itoa(i)+"]", r.Stmt)...)
	}
	return out
}

// sharingLogs have open transactions 2 and 3, and statements whose lists stand
// in more than one record.
func sharingLogs() [][]impl.Rec {
	var out [][]impl.Rec
	for _, room := range []int{0, 1, 2, 20} {
		r, x := plainRow(1), change(create(tableOf("b", "k x", "k")))
		other := x
		other.Table, other.Ddl.Table = "c", "c"
		l := logOf(committed(1, x, other, insert("b", r), update("b", r.Vals[:1], r), change(add("c", defCol("n", true, intVal(4))))), doing(2, insert("c", r)), doing(3, update("b", r.Vals[:1], r), remove("b", r.Vals[:1])))
		out = append(out, append(make([]impl.Rec, 0, len(l)+room), l...))
	}
	return out
}

// sayNewLog asks that the call leaves l and s as they are and gives new memory.
func sayNewLog(t *testing.T, what string, l []impl.Rec, s impl.Stmt, call func() ([]impl.Rec, int)) {
	t.Helper()
	args := append(recsLists("l", l), stmtLists("s", s)...)
	var one, two []impl.Rec
	sayUnchanged(t, what, args, func() {
		one, _ = call()
		two, _ = call()
	})
	if len(one) <= len(l) || !same(one, two) {
		t.Errorf("%s is %+v, and then %+v", what, one, two)
	}
	sayNoneShared(t, what, args, append(recsLists("one", one), recsLists("two", two)...))
}

func TestP15NewLogsAreNewMemory(t *testing.T) {
	for i := range sharingLogs() {
		for what, call := range map[string]func([]impl.Rec, impl.Stmt) ([]impl.Rec, int){
			"Begin":   func(l []impl.Rec, s impl.Stmt) ([]impl.Rec, int) { return impl.Begin(l, 9) },
			"Do":      func(l []impl.Rec, s impl.Stmt) ([]impl.Rec, int) { return impl.Do(l, 2, s) },
			"Commit":  func(l []impl.Rec, s impl.Stmt) ([]impl.Rec, int) { return impl.Commit(l, 3) },
			"Abort":   func(l []impl.Rec, s impl.Stmt) ([]impl.Rec, int) { return impl.Abort(l, 2) },
			"Restart": func(l []impl.Rec, s impl.Stmt) ([]impl.Rec, int) { return impl.Restart(l) },
		} {
			for _, s := range []impl.Stmt{update("b", intKey(1), plainRow(7)), change(create(tableOf("d", "ka kb x", "ka kb")))} {
				l := sharingLogs()[i]
				sayNewLog(t, what, l, s, func() ([]impl.Rec, int) { return call(l, s) })
			}
		}
		l := sharingLogs()[i]
		sayNewLog(t, "Do of what the log has", l, l[4].Stmt, func() ([]impl.Rec, int) { return impl.Do(l, 2, l[4].Stmt) })
	}
}

func TestP15ARestartOfWhatHasEndedIsNewMemory(t *testing.T) {
	l := logOf(setUp(1), committed(2, put(1)))
	args := recsLists("l", l)
	var got []impl.Rec
	sayUnchanged(t, "Restart", args, func() { got, _ = impl.Restart(l) })
	sayApart(t, "Restart", append(args, recsLists("answer", got)...))
}

func TestP15StatementsOfALogAreNewMemory(t *testing.T) {
	for i := range sharingLogs() {
		for _, xid := range []int{1, 2, 3} {
			l := sharingLogs()[i]
			args := recsLists("l", l)
			var got []impl.Stmt
			var open []int
			sayUnchanged(t, "StmtsOf", args, func() {
				got = impl.StmtsOf(l, xid)
				open = impl.Open(l)
			})
			again := listOf("again", impl.Open(l), -9, showOf[int])
			sayNoneShared(t, "StmtsOf", args, append(stmtsLists("answer", got), listOf("open", open, -9, showOf[int]), again))
		}
	}
}

func TestP15StoresOfALogAreNewMemory(t *testing.T) {
	for i, from := range sharingLogs() {
		for n := range len(from) + 1 {
			l := sharingLogs()[i]
			args := recsLists("l", l)
			var one, two impl.Db
			sayUnchanged(t, "DbAt", args, func() {
				one, _ = impl.DbAt(l, n)
				two, _ = impl.DbAt(l, n)
			})
			sayNoneShared(t, "DbAt", args, append(dbLists("one", one), dbLists("two", two)...))
		}
	}
}

func TestP15ReadRecordsAreNewMemory(t *testing.T) {
	for _, s := range []string{"do 1 create t ( a int not ) ( b int not ) ( c text ) key a b", "do 1 update t 1 2 to 1 2 'c'", "do 1 insert t 1 2 'c'", "do 1 delete t 1 2", "do 1 add t n int =4", "begin 1"} {
		got, ok := impl.TextRec(s)
		if !ok {
			t.Errorf("%q isn't read", s)
		}
		other, _ := impl.TextRec(s)
		sayApart(t, "TextRec of "+s, append(stmtLists("answer", got.Stmt), stmtLists("other", other.Stmt)...))
		if again, _ := impl.TextRec(s); impl.RecText(again) != s {
			t.Errorf("behind a caller's writing %q is read as %+v", s, again)
		}
	}
}

func TestP15ArgumentsOfLogsStay(t *testing.T) {
	for i, l := range slices.Concat(rightLogs(), wrongLogs(), sharingLogs()) {
		l := roomy(l)
		s := update("b", intKey(1), plainRow(2))
		sayUnchanged(t, "log "+strconv.Itoa(i), append(recsLists("l", l), stmtLists("s", s)...), func() {
			impl.LogOk(l)
			impl.Open(l)
			impl.Used(l, 1)
			impl.StmtsOf(l, 1)
			impl.DbAt(l, len(l))
			impl.DbAt(l, len(l)/2)
			impl.Begin(l, 99)
			impl.Begin(l, 1)
			impl.Restart(l)
			for _, xid := range []int{1, 2, 3, 0} {
				impl.Do(l, xid, s)
				impl.Commit(l, xid)
				impl.Abort(l, xid)
			}
			for _, r := range l {
				impl.RecOk(r)
				impl.RecText(r)
			}
		})
	}
}
