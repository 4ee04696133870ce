package tests

import (
	"math"
	"slices"
	"strconv"
	"strings"
	"testing"

	"loop.example/g00462/impl"
)

// partOf is a part with these names, told as words.
func partOf(s impl.Stmt, cols string, keys string) impl.Part {
	return impl.Part{Stmt: s, Cols: roomy(strings.Fields(cols)), Keys: roomy(strings.Fields(keys))}
}

func batchOf(lsn int, prev int, parts ...impl.Part) impl.Batch {
	return impl.Batch{Lsn: lsn, Prev: prev, Parts: roomy(parts)}
}

// setUpBatch is what setUp makes as the first transaction of a log.
func setUpBatch() impl.Batch {
	return batchOf(3, 0, partOf(change(create(tableOf("b", "k x", "k"))), "", ""))
}

// putPart is a put into a table as setUp makes it.
func putPart(n int) impl.Part { return partOf(put(n), "k x", "k") }

// Chapter 9 a second time, in another way than the program does it: each
// question is asked of the whole log anew.
func placesIn(l []impl.Rec) []int {
	var out []int
	for i, r := range l {
		if isLog(l) && r.Kind == impl.RecCommit {
			out = append(out, i+1)
		}
	}
	return out
}

func namesIn(d impl.Db, table string) (cols []string, keys []string) {
	for _, x := range d.Cat.Tables {
		if x.Name == table {
			for _, c := range x.Cols {
				cols = append(cols, c.Name)
			}
			keys = append(keys, x.Keys...)
		}
	}
	return cols, keys
}

func partsIn(d impl.Db, l []impl.Stmt) []impl.Part {
	var out []impl.Part
	for n, s := range l {
		p := impl.Part{Stmt: s}
		if ahead, _, _ := impl.ExecAll(d, l[:n]); s.Kind != impl.StDdl {
			p.Cols, p.Keys = namesIn(ahead, s.Table)
		}
		out = append(out, p)
	}
	return out
}

// batchIn is the batch of the n-th of those places.
func batchIn(l []impl.Rec, places []int, n int) impl.Batch {
	b := impl.Batch{Lsn: places[n]}
	if n > 0 {
		b.Prev = places[n-1]
	}
	ahead, _ := storeIn(l[:b.Lsn-1])
	b.Parts = partsIn(ahead, stmtsIn(l, l[b.Lsn-1].Xid))
	return b
}

func batchesIn(l []impl.Rec) []impl.Batch {
	var out []impl.Batch
	places := placesIn(l)
	for n := range places {
		out = append(out, batchIn(l, places, n))
	}
	return out
}

// sayBatches asks that the log tells just these, whoever is asked for them.
func sayBatches(t *testing.T, what string, l []impl.Rec, want []impl.Batch) {
	t.Helper()
	var places []int
	for _, b := range want {
		places = append(places, b.Lsn)
	}
	if got := impl.Commits(l); !slices.Equal(got, places) {
		t.Errorf("%s: Commits(%+v) is %v, not %v", what, l, got, places)
	}
	last := 0
	if len(places) > 0 {
		last = places[len(places)-1]
	}
	if got := impl.Last(l); got != last {
		t.Errorf("%s: Last(%+v) is %d, not %d", what, l, got, last)
	}
	if got := impl.Decode(l, 0); !same(got, want) {
		t.Errorf("%s: Decode(%+v, 0) is %+v, not %+v", what, l, got, want)
	}
	for _, b := range want {
		if got, ok := impl.BatchAt(l, b.Lsn); !ok || !same(got, b) {
			t.Errorf("%s: BatchAt(%+v, %d) is %+v, %v; not %+v", what, l, b.Lsn, got, ok, b)
		}
	}
}

func sayNoBatch(t *testing.T, what string, l []impl.Rec, place int) {
	t.Helper()
	if got, ok := impl.BatchAt(l, place); ok || !same(got, impl.Batch{}) {
		t.Errorf("%s: BatchAt(%+v, %d) is %+v, %v", what, l, place, got, ok)
	}
}

// sayFrom asks for those of all batches that are above from.
func sayFrom(t *testing.T, what string, l []impl.Rec, from int, all []impl.Batch) {
	t.Helper()
	var want []impl.Batch
	for _, b := range all {
		if b.Lsn > from {
			want = append(want, b)
		}
	}
	if got := impl.Decode(l, from); !same(got, want) {
		t.Errorf("%s: Decode(%+v, %d) is %+v, not %+v", what, l, from, got, want)
	}
}

func sayParts(t *testing.T, what string, d impl.Db, l []impl.Stmt, want []impl.Part) {
	t.Helper()
	if got, ok := impl.PartsOf(d, l); !ok || !same(got, want) {
		t.Errorf("%s: PartsOf(%+v, %+v) is %+v, %v; not %+v", what, d, l, got, ok, want)
	}
}

func sayNoParts(t *testing.T, what string, d impl.Db, l []impl.Stmt) {
	t.Helper()
	if got, ok := impl.PartsOf(d, l); ok || len(got) != 0 {
		t.Errorf("%s: PartsOf(%+v, %+v) is %+v, %v", what, d, l, got, ok)
	}
}

// noPlaces are places that the list has not.
func noPlaces(l []impl.Rec) []int {
	return []int{0, -1, -2, -len(l), len(l) + 1, len(l) + 2, impl.MaxRecs + 1, math.MaxInt, math.MinInt}
}

func TestP15CommitsOfSomeLogs(t *testing.T) {
	b := setUp(1)
	for _, c := range []struct {
		l    []impl.Rec
		want []int
	}{
		{nil, nil}, {[]impl.Rec{}, nil}, {[]impl.Rec{begin(1)}, nil}, {aborted(1), nil}, {committed(1), []int{2}}, {doing(1, put(1)), nil}, {b, []int{3}},
		{logOf(b, committed(2), committed(3)), []int{3, 5, 7}}, {logOf(b, doing(3), committed(2)), []int{3, 6}}, {logOf(aborted(4), b), []int{5}},
		{logOf(b, doing(3), committed(2), []impl.Rec{commit(3)}), []int{3, 6, 7}}, {logOf(b, doing(3), aborted(2), []impl.Rec{commit(3)}), []int{3, 7}},
		{logOf([]impl.Rec{begin(9)}, b, []impl.Rec{commit(9)}), []int{4, 5}}, {logOf(b, aborted(2), committed(3, put(1))), []int{3, 8}}, {clearLog(impl.MaxRecs), []int{3}},
	} {
		if got := impl.Commits(c.l); !slices.Equal(got, c.want) {
			t.Errorf("Commits(%+v) is %v, not %v", c.l, got, c.want)
		}
		last := 0
		if len(c.want) > 0 {
			last = c.want[len(c.want)-1]
		}
		if got := impl.Last(c.l); got != last {
			t.Errorf("Last(%+v) is %d, not %d", c.l, got, last)
		}
	}
}

func TestP15NamesOf(t *testing.T) {
	for _, d := range rightDbs() {
		for _, x := range d.Cat.Tables {
			wantCols, wantKeys := namesIn(d, x.Name)
			if cols, keys := impl.NamesOf(d, x.Name); !slices.Equal(cols, wantCols) || !slices.Equal(keys, wantKeys) || len(cols) == 0 || len(keys) == 0 {
				t.Errorf("NamesOf(%+v, %q) is %v, %v", d, x.Name, cols, keys)
			}
		}
		for _, name := range []string{"", "a", "bb", "e", "B", "zz", "b ", "k", "x", "abcdefghi"} {
			if cols, keys := impl.NamesOf(d, name); len(cols)+len(keys) != 0 {
				t.Errorf("NamesOf(%+v, %q) is %v, %v", d, name, cols, keys)
			}
		}
	}
	for _, d := range wrongDbs() {
		for _, x := range d.Cat.Tables {
			if cols, keys := impl.NamesOf(d, x.Name); len(cols)+len(keys) != 0 {
				t.Errorf("NamesOf(%+v, %q) is %v, %v", d, x.Name, cols, keys)
			}
		}
	}
}

func TestP15NamesHaveTheOrderOfTheTable(t *testing.T) {
	for _, c := range []struct{ cols, keys string }{
		{"k", "k"}, {"x k", "k"}, {"kc kb ka", "kc kb ka"}, {"kc kb ka", "kc ka"}, {"kz x ka b", "kz ka"}, {"x z y k", "k"}, {"ka kb kc kd ke kf kg kh", "ka kb kc kd ke kf kg kh"},
	} {
		d := dbOf(catOf(tableOf("m", "z k a", "k"), tableOf("t", c.cols, c.keys), tableOf("u", "k", "k")), nil, nil, nil)
		cols, keys := impl.NamesOf(d, "t")
		if strings.Join(cols, " ") != c.cols || strings.Join(keys, " ") != c.keys {
			t.Errorf("NamesOf a table with %s, key %s is %v, %v", c.cols, c.keys, cols, keys)
		}
	}
	if cols, keys := impl.NamesOf(dbOf(catOf(mixedTable()), mixedRows()), "mix"); !same(cols, []string{"b", "s", "n", "i"}) || !same(keys, []string{"s", "i"}) {
		t.Errorf("the names of mix are %v, %v", cols, keys)
	}
}

// drifting are statements behind which a table has other columns and keys,
// each with the names that it has ahead of it.
func drifting() []impl.Part {
	return []impl.Part{
		partOf(change(create(tableOf("b", "k x", "k"))), "", ""), partOf(put(1), "k x", "k"), partOf(change(add("b", freeCol("a"))), "", ""),
		partOf(insert("b", rowOf(intVal(2), impl.Val{}, textVal("p"))), "k x a", "k"), partOf(change(rename("b", "k", "id")), "", ""),
		partOf(update("b", intKey(2), rowOf(intVal(3), textVal("q"), impl.Val{})), "id x a", "id"), partOf(change(create(tableOf("a", "kb kx y", "kb"))), "", ""),
		partOf(insert("a", rowOf(intVal(1), intVal(1), impl.Val{})), "kb kx y", "kb"), partOf(change(outOf("b", "x")), "", ""), partOf(remove("b", intKey(3)), "id a", "id"),
		partOf(change(rename("b", "a", "x")), "", ""), partOf(empty("b"), "id x", "id"), partOf(change(drop("b")), "", ""), partOf(empty("a"), "kb kx y", "kb"),
		partOf(change(create(tableOf("b", "x kz ka", "kz ka"))), "", ""), partOf(insert("b", rowOf(impl.Val{}, intVal(4), intVal(5))), "x kz ka", "kz ka"),
		partOf(change(rename("b", "ka", "kk")), "", ""), partOf(remove("b", keyOf(intVal(4), intVal(5))), "x kz kk", "kz kk"), partOf(empty("b"), "x kz kk", "kz kk"),
	}
}

func stmtsOfParts(l []impl.Part) []impl.Stmt {
	var out []impl.Stmt
	for _, p := range l {
		out = append(out, p.Stmt)
	}
	return roomy(out)
}

func TestP15PartsHaveTheNamesAsTheyWere(t *testing.T) {
	all := drifting()
	stmts := stmtsOfParts(all)
	for n := range len(all) + 1 {
		d, code, _ := impl.ExecAll(impl.Db{}, stmts[:n])
		if code != 0 {
			t.Fatalf("the first %d statements tell %d", n, code)
		}
		for m := n; m <= len(all); m++ {
			sayParts(t, "from the place "+strconv.Itoa(n), d, stmts[n:m], all[n:m])
		}
	}
}

func TestP15PartsOfOneStatement(t *testing.T) {
	for _, s := range goingStmts() {
		d := plainDb(3, 14)
		p := partOf(s, "k x", "k")
		if s.Kind == impl.StDdl {
			p = partOf(s, "", "")
		}
		sayParts(t, "one", d, []impl.Stmt{s}, []impl.Part{p})
	}
	seen := map[int]int{}
	for _, d := range rightDbs() {
		for _, s := range rightStmts() {
			_, code := impl.Exec(d, s)
			if code != 0 {
				sayNoParts(t, "one that doesn't go", d, []impl.Stmt{s})
				continue
			}
			seen[s.Kind]++
			sayParts(t, "one that goes", d, []impl.Stmt{s}, partsIn(d, []impl.Stmt{s}))
		}
	}
	for kind := impl.StInsert; kind <= impl.StDdl; kind++ {
		if seen[kind] == 0 {
			t.Errorf("no statement of the kind %d went", kind)
		}
	}
}

func TestP15PartsOfNoStatements(t *testing.T) {
	for _, d := range rightDbs() {
		sayParts(t, "nil", d, nil, nil)
		sayParts(t, "none", d, []impl.Stmt{}, nil)
	}
	for _, d := range wrongDbs() {
		sayNoParts(t, "nil", d, nil)
		sayNoParts(t, "none", d, []impl.Stmt{})
		sayNoParts(t, "one that needs no table", d, []impl.Stmt{change(create(tableOf("zz", "k", "k")))})
		sayNoParts(t, "some", d, []impl.Stmt{empty("b"), put(1), change(drop("b"))})
	}
}

func TestP15PartsWhereOneDoesNotGo(t *testing.T) {
	bad := []impl.Stmt{
		{}, empty("none"), insert("none", plainRow(1)), change(drop("none")), insert("t", rowOf(valsOf(intVal(1), impl.MaxCols)...)), remove("t", intKey(77)),
		update("t", intKey(77), plainRow(77)), change(create(tableOf("t", "k", "k"))), change(rename("t", "none", "nn")), change(outOf("t", "none")), {Kind: impl.StClear},
	}
	l := longList()
	sayParts(t, "all go", impl.Db{}, l, partsIn(impl.Db{}, l))
	for n := 1; n <= len(l); n++ {
		for _, s := range bad {
			sayNoParts(t, "one doesn't go", impl.Db{}, slices.Insert(longList(), n, s))
		}
	}
	for _, d := range []impl.Db{{}, plainDb(3), plainDb(3, 3)} {
		for _, s := range wrongStmts() {
			sayNoParts(t, "a wrong statement", d, []impl.Stmt{s})
		}
	}
}

// sideBySide has six commits, whose statements stand among those of others.
func sideBySide() []impl.Rec {
	return logOf(
		setUp(1), doing(2, put(1)), committed(3, change(rename("b", "x", "y"))), aborted(4, put(9), change(drop("b"))), []impl.Rec{does(2, put(3)), commit(2)}, committed(5),
		doing(6, change(rename("b", "k", "id"))), doing(7, remove("b", intKey(1))), []impl.Rec{commit(7), commit(6)}, doing(8, empty("b")),
	)
}

func sideBySideBatches() []impl.Batch {
	return []impl.Batch{
		setUpBatch(), batchOf(8, 3, partOf(change(rename("b", "x", "y")), "", "")), batchOf(14, 8, partOf(put(1), "k y", "k"), partOf(put(3), "k y", "k")), batchOf(16, 14),
		batchOf(21, 16, partOf(remove("b", intKey(1)), "k y", "k")), batchOf(22, 21, partOf(change(rename("b", "k", "id")), "", "")),
	}
}

func TestP15BatchesOfSomeLogs(t *testing.T) {
	first, put1 := setUp(1), committed(2, put(1))
	for _, c := range []struct {
		what string
		l    []impl.Rec
		want []impl.Batch
	}{
		{"nil", nil, nil}, {"no records", []impl.Rec{}, nil}, {"no commit", logOf(doing(1, put(1)), aborted(2, put(1))), nil}, {"nothing in it", committed(1), []impl.Batch{batchOf(2, 0)}}, {"one", first, []impl.Batch{setUpBatch()}},
		{"two", logOf(first, put1), []impl.Batch{setUpBatch(), batchOf(6, 3, putPart(1))}}, {"one that is open between", logOf(first, doing(9, put(5)), put1), []impl.Batch{setUpBatch(), batchOf(8, 3, putPart(1))}},
		{"one that aborts between", logOf(first, aborted(9, put(5)), put1), []impl.Batch{setUpBatch(), batchOf(9, 3, putPart(1))}}, {"one that aborts first", logOf(aborted(9, put(5)), committed(2)), []impl.Batch{batchOf(5, 0)}},
		{"many with nothing in them", logOf(committed(3), committed(2), aborted(1), committed(4)), []impl.Batch{batchOf(2, 0), batchOf(4, 2), batchOf(8, 4)}},
		{"all in one", committed(9, stmtsOfParts(drifting())...), []impl.Batch{batchOf(len(drifting())+2, 0, drifting()...)}}, {"side by side", sideBySide(), sideBySideBatches()},
	} {
		sayBatches(t, c.what, c.l, c.want)
		for _, from := range append(noPlaces(c.l), 1, 2, 3, 4, 5) {
			sayFrom(t, c.what, c.l, from, c.want)
		}
		for _, place := range noPlaces(c.l) {
			sayNoBatch(t, c.what, c.l, place)
		}
	}
}

// TestP15OneTransactionForEachStatement has tables that change between two
// transactions as drifting has them within one.
func TestP15OneTransactionForEachStatement(t *testing.T) {
	var l []impl.Rec
	var want []impl.Batch
	for i, p := range drifting() {
		l = append(l, committed(50-i, p.Stmt)...)
		want = append(want, batchOf(3*i+3, 3*i, p))
	}
	sayBatches(t, "one after the other", l, want)
	l = logOf([]impl.Rec{begin(60), does(60, empty("none"))}, l)
	for i := range want {
		want[i].Lsn += 2
		if i > 0 {
			want[i].Prev += 2
		}
	}
	sayBatches(t, "behind one that is open", l, want)
}

func TestP15BatchAtEachPlace(t *testing.T) {
	l, want := sideBySide(), sideBySideBatches()
	at := 0
	for place := -3; place <= len(l)+3; place++ {
		if at < len(want) && want[at].Lsn == place {
			at++
			continue
		}
		sayNoBatch(t, "no commit", l, place)
	}
	if at != len(want) {
		t.Errorf("%d places of commits", at)
	}
	sayBatches(t, "up to the last commit", l[:22], want)
	sayBatches(t, "up to just ahead of it", l[:21], want[:5])
	sayBatches(t, "up to the first commit", l[:3], want[:1])
	sayBatches(t, "up to just ahead of it", l[:2], nil)
	sayNoBatch(t, "one beyond the end", l[:21], 22)
	sayNoBatch(t, "one beyond the end", l[:2], 3)
}

func TestP15DecodeFromEachPlace(t *testing.T) {
	l, want := sideBySide(), sideBySideBatches()
	for from := -3; from <= len(l)+3; from++ {
		sayFrom(t, "a place", l, from, want)
	}
	for _, c := range []struct{ from, n int }{
		{math.MinInt, 6}, {-1, 6}, {0, 6}, {1, 6}, {2, 6}, {3, 5}, {4, 5}, {7, 5}, {8, 4}, {13, 4}, {14, 3}, {15, 3}, {16, 2}, {20, 2}, {21, 1}, {22, 0}, {23, 0}, {24, 0}, {25, 0}, {impl.MaxRecs, 0}, {math.MaxInt, 0},
	} {
		if got := impl.Decode(l, c.from); len(got) != c.n {
			t.Errorf("Decode from %d has %d batches, not %d", c.from, len(got), c.n)
		}
	}
}

func TestP15BatchesOfRightLogs(t *testing.T) {
	seen := 0
	for _, l := range rightLogs() {
		want := batchesIn(l)
		seen += len(want)
		sayBatches(t, "a right log", l, want)
		for from := -1; from <= len(l)+1; from++ {
			if len(l) < 100 || from%50 == 0 {
				sayFrom(t, "a right log", l, from, want)
			}
			if !slices.ContainsFunc(want, func(b impl.Batch) bool { return b.Lsn == from }) && len(l) < 100 {
				sayNoBatch(t, "a right log", l, from)
			}
		}
	}
	if seen < 100 {
		t.Errorf("only %d batches", seen)
	}
}

func sayNothingOf(t *testing.T, what string, l []impl.Rec) {
	t.Helper()
	sayBatches(t, what, l, nil)
	for _, place := range append(noPlaces(l), 1, 2, 3, 6) {
		sayNoBatch(t, what, l, place)
		sayFrom(t, what, l, place, nil)
	}
	for i, r := range l {
		if r.Kind == impl.RecCommit && i < 40 {
			sayNoBatch(t, what, l, i+1)
		}
	}
}

func TestP15WrongLogsTellNothing(t *testing.T) {
	for _, l := range wrongLogs() {
		sayNothingOf(t, "a wrong log", l)
	}
	for _, r := range []impl.Rec{{}, begin(1), commit(1), commit(99), begin(0), does(8, impl.Stmt{}), does(2, put(1))} {
		sayNothingOf(t, "a wrong record behind the others", append(sideBySide(), r))
		sayNothingOf(t, "a wrong record ahead of the others", logOf([]impl.Rec{r, r}, sideBySide()))
	}
	sayNothingOf(t, "a commit that can't", append(sideBySide(), does(8, put(1)), does(8, put(1)), commit(8)))
}

func TestP15BatchesOfShortLists(t *testing.T) {
	right := 0
	eachList(fewRecs(), 5, func(l []impl.Rec) {
		if want := batchesIn(l); len(want) > 0 {
			right++
			sayBatches(t, "a short log", l, want)
			sayFrom(t, "a short log", l, want[0].Lsn-1, want)
			sayFrom(t, "a short log", l, want[0].Lsn, want)
			return
		}
		if places, last, all := impl.Commits(l), impl.Last(l), impl.Decode(l, 0); len(places)+last+len(all) != 0 {
			t.Errorf("%+v has %v, %d, %+v", l, places, last, all)
		}
		for place := range len(l) + 2 {
			sayNoBatch(t, "a short list", l, place)
		}
	})
	if right < 50 {
		t.Errorf("only %d of the lists have a batch", right)
	}
}

// manyCommits has n commits, three records each.
func manyCommits(n int) []impl.Rec {
	l := setUp(1)
	for i := 2; i <= n; i++ {
		l = append(l, committed(i, empty("b"))...)
	}
	return l
}

func TestP15BatchesAtTheMostRecords(t *testing.T) {
	l := append(manyCommits(132), committed(900, put(1), put(2))...)
	want := []impl.Batch{setUpBatch()}
	for i := 2; i <= 132; i++ {
		want = append(want, batchOf(3*i, 3*i-3, partOf(empty("b"), "k x", "k")))
	}
	sayBatches(t, "the most, and the last commits", l, append(want, batchOf(400, 396, putPart(1), putPart(2))))
	sayFrom(t, "the most", l, 399, []impl.Batch{batchOf(400, 396, putPart(1), putPart(2))})
	sayFrom(t, "the most", l, 400, nil)
	sayNoBatch(t, "the most", l, 401)
	sayBatches(t, "one less", l[:399], want)
	sayNothingOf(t, "one more", append(roomy(l), begin(901)))
	var parts []impl.Part
	for _, r := range clearLog(impl.MaxRecs - 1)[4:] {
		parts = append(parts, partOf(r.Stmt, "k x", "k"))
	}
	sayBatches(t, "one with nearly all", append(clearLog(impl.MaxRecs-1), commit(2)), []impl.Batch{setUpBatch(), batchOf(400, 3, parts...)})
}

// madeOf is the store that the batches make, one after the other.
func madeOf(t *testing.T, l []impl.Batch) impl.Db {
	t.Helper()
	var d impl.Db
	for _, b := range l {
		next, code, at := impl.ExecAll(d, impl.StmtsIn(b))
		if code != 0 {
			t.Errorf("the batch %+v tells %d at %d on %+v", b, code, at, d)
		}
		d = next
	}
	return d
}

// sayMakes asks that the batches up to each place make the store there.
func sayMakes(t *testing.T, what string, l []impl.Rec) {
	t.Helper()
	all := impl.Decode(l, 0)
	n := 0
	want := impl.Db{}
	for place := range len(l) + 1 {
		if n < len(all) && all[n].Lsn == place {
			n++
			want = madeOf(t, all[:n])
		}
		sayStore(t, what, l, place, want)
	}
	if n != len(all) {
		t.Errorf("%s: only %d of %d batches have a place in %+v", what, n, len(all), l)
	}
}

func TestP5TheBatchesMakeTheStore(t *testing.T) {
	sayMakes(t, "side by side", sideBySide())
	sayMakes(t, "one that drifts", committed(1, stmtsOfParts(drifting())...))
	for _, l := range rightLogs() {
		if len(l) < 100 {
			sayMakes(t, "a right log", l)
			continue
		}
		d, ok := impl.DbAt(l, len(l))
		if got := madeOf(t, impl.Decode(l, 0)); !ok || !same(got, d) {
			t.Errorf("the batches of %+v make %+v, not %+v", l, got, d)
		}
	}
}

func TestP5TheBatchesOfMixturesMakeTheStore(t *testing.T) {
	two := committed(12, put(1), change(add("b", defCol("n", true, intVal(4)))), insert("b", rowOf(intVal(3), impl.Val{}, intVal(5))))
	made := map[string]int{}
	for i, m := range mixtures(two, committed(11, empty("b")), aborted(13, change(drop("b")))) {
		if i%5 != 0 {
			continue
		}
		l := logOf(setUp(1), committed(2, put(7)), m)
		sayMakes(t, "a mixture", l)
		made[impl.DbText(madeOf(t, impl.Decode(l, 0)))]++
	}
	if len(made) != 2 {
		t.Errorf("the mixtures make %v", made)
	}
}

// TestP5NamesAreThoseAtTheCommit has statements that come while a table has
// other names than it has when they are committed.
func TestP5NamesAreThoseAtTheCommit(t *testing.T) {
	seen := map[string]int{}
	for _, m := range mixtures(committed(2, put(1), put(2)), committed(3, change(rename("b", "x", "y"))), committed(4, change(rename("b", "k", "id")))) {
		l := logOf(setUp(1), m)
		cols, keys := "k x", "k"
		want := []impl.Batch{setUpBatch()}
		for i, r := range l[3:] {
			if r.Kind != impl.RecCommit {
				continue
			}
			b := batchOf(i+4, want[len(want)-1].Lsn)
			switch r.Xid {
			case 2:
				b.Parts = []impl.Part{partOf(put(1), cols, keys), partOf(put(2), cols, keys)}
				seen[cols]++
			case 3:
				b.Parts = []impl.Part{partOf(change(rename("b", "x", "y")), "", "")}
				cols = strings.Replace(cols, "x", "y", 1)
			case 4:
				b.Parts = []impl.Part{partOf(change(rename("b", "k", "id")), "", "")}
				cols, keys = strings.Replace(cols, "k", "id", 1), "id"
			}
			want = append(want, b)
		}
		sayBatches(t, "a mixture", l, want)
	}
	if len(seen) != 4 {
		t.Errorf("names %v", seen)
	}
}

// onlyParts leaves the places out.
func onlyParts(l []impl.Batch) [][]impl.Part {
	var out [][]impl.Part
	for _, b := range l {
		out = append(out, b.Parts)
	}
	return out
}

func TestP5WhatIsNotCommittedIsInNoBatch(t *testing.T) {
	for _, l := range append(rightLogs(), sideBySide()) {
		all := impl.Decode(l, 0)
		if less := impl.Decode(onlyCommitted(l), 0); !same(onlyParts(all), onlyParts(less)) {
			t.Errorf("the batches of %+v have %+v, without what isn't committed %+v", l, onlyParts(all), onlyParts(less))
		}
		if len(l) > 100 {
			continue
		}
		for _, more := range [][]impl.Rec{{begin(77)}, doing(77, put(8)), aborted(77, put(8), change(drop("b"))), {begin(77), begin(78), abort(77)}} {
			sayBatches(t, "more that isn't committed", logOf(l, more), all)
		}
		for _, xid := range openIn(l) {
			sayBatches(t, "one that aborts", logOf(l, []impl.Rec{abort(xid)}), all)
		}
	}
}

func TestP5ACommitIsTheLastBatch(t *testing.T) {
	done := 0
	for _, l := range append(rightLogs(), sideBySide()) {
		for _, xid := range openIn(l) {
			next, code := impl.Commit(l, xid)
			if code != 0 {
				continue
			}
			done++
			d, _ := impl.DbAt(l, len(l))
			parts, ok := impl.PartsOf(d, impl.StmtsOf(l, xid))
			if !ok {
				t.Errorf("PartsOf what commits in %+v is false", next)
			}
			sayBatches(t, "one more commit", next, append(batchesIn(l), batchOf(len(next), impl.Last(l), parts...)))
		}
	}
	if done < 5 {
		t.Errorf("only %d commits", done)
	}
}

func sayBatchText(t *testing.T, b impl.Batch, want string) {
	t.Helper()
	if got := impl.BatchText(b); got != want {
		t.Errorf("BatchText(%+v) is %q, not %q", b, got, want)
	}
}

func TestP15BatchText(t *testing.T) {
	sayBatchText(t, impl.Batch{}, "batch 0 0\n")
	sayBatchText(t, impl.Batch{Lsn: 4, Prev: 3, Parts: []impl.Part{}}, "batch 4 3\n")
	sayBatchText(t, setUpBatch(), "batch 3 0\ncreate b ( k int not ) ( x text ) key k\n")
	sayBatchText(t, batchOf(14, 8, putPart(1), putPart(3)), "batch 14 8\ninsert b 1 'r1' | k x\ninsert b 3 'r3' | k x\n")
	sayBatchText(t, batchOf(2, 1, partOf(update("b", intKey(1), plainRow(2)), "k x", "k"), partOf(change(drop("b")), "", "")), "batch 2 1\nupdate b 1 to 2 'r2' | k x\ndrop b\n")
	sayBatchText(t, batchOf(2, 1, partOf(remove("b", intKey(1)), "k", "k"), partOf(empty("b"), "b s n i", "s i")), "batch 2 1\ndelete b 1 | k\nclear b | b s n i\n")
	sayBatchText(t, batchOf(2, 1, partOf(empty("b"), "", "")), "batch 2 1\nclear b\n")
	sayBatchText(t, batchOf(2, 1, partOf(empty("b"), "", "k")), "batch 2 1\nclear b\n")
	sayBatchText(t, batchOf(2, 1, partOf(change(drop("b")), "k x", "k")), "batch 2 1\ndrop b | k x\n")
	sayBatchText(t, batchOf(2, 1, partOf(empty("b"), strings.Repeat("k ", 20), "")), "batch 2 1\nclear b |"+strings.Repeat(" k", 20)+"\n")
	sayBatchText(t, batchOf(2, 1, impl.Part{Stmt: empty("b"), Cols: []string{""}}), "batch 2 1\nclear b | \n")
	sayBatchText(t, batchOf(2, 1, impl.Part{Stmt: empty("b"), Cols: []string{"", "A b", "|"}}), "batch 2 1\nclear b |  A b |\n")
	sayBatchText(t, batchOf(2, 1, impl.Part{Stmt: empty("b"), Cols: []string{}, Keys: []string{}}), "batch 2 1\nclear b\n")
}

func TestP15BatchTextOfAllStatements(t *testing.T) {
	var l []impl.Part
	want := "batch 5 2\n"
	for i, s := range rightStmts() {
		sayBatchText(t, batchOf(5, 2, partOf(s, "", "")), "batch 5 2\n"+impl.StmtText(s)+"\n")
		sayBatchText(t, batchOf(5, 2, partOf(s, "c d", "c")), "batch 5 2\n"+impl.StmtText(s)+" | c d\n")
		names := strings.Repeat(" c", i%9)
		l = append(l, partOf(s, names, names))
		want += impl.StmtText(s)
		if names != "" {
			want += " |" + names
		}
		want += "\n"
	}
	sayBatchText(t, batchOf(5, 2, l...), want)
	for _, b := range sideBySideBatches() {
		if text := impl.BatchText(b); strings.Count(text, "\n") != len(b.Parts)+1 {
			t.Errorf("BatchText(%+v) is %q", b, text)
		}
	}
}

func TestP15BatchTextNumbers(t *testing.T) {
	for _, n := range []int{0, 1, -1, 9, 10, -10, 400, 401, 4711, impl.MaxNum, -impl.MaxNum} {
		s := strconv.Itoa(n)
		sayBatchText(t, batchOf(n, 5), "batch "+s+" 5\n")
		sayBatchText(t, batchOf(5, n), "batch 5 "+s+"\n")
		sayBatchText(t, batchOf(n, n, putPart(1)), "batch "+s+" "+s+"\ninsert b 1 'r1' | k x\n")
	}
	for _, n := range []int{impl.MaxNum + 1, -impl.MaxNum - 1, math.MaxInt, math.MinInt} {
		for _, b := range []impl.Batch{batchOf(n, 5), batchOf(5, n), batchOf(n, n), batchOf(n, 5, putPart(1)), batchOf(5, n, putPart(1)), batchOf(n, 0, impl.Part{})} {
			sayBatchText(t, b, "")
		}
	}
}

func TestP15BatchTextWithAWrongStatement(t *testing.T) {
	for _, s := range wrongStmts() {
		sayBatchText(t, batchOf(5, 2, partOf(s, "k x", "k")), "")
		for at := range 4 {
			l := []impl.Part{putPart(1), partOf(empty("b"), "", ""), partOf(change(drop("b")), "", "")}
			sayBatchText(t, batchOf(5, 2, slices.Insert(l, at, partOf(s, "", ""))...), "")
		}
	}
	sayBatchText(t, batchOf(5, 2, impl.Part{}), "")
	sayBatchText(t, batchOf(5, 2, impl.Part{Cols: []string{"k"}, Keys: []string{"k"}}), "")
}

func TestP15StmtsIn(t *testing.T) {
	odd := impl.Stmt{Kind: 9, Key: []impl.Val{{Ty: 9}}}
	for _, l := range [][]impl.Stmt{
		nil, {}, {put(1)}, {put(1), put(1)}, {put(3), put(1), empty("b"), put(2)}, {{}}, {odd, put(1), {}, odd}, longList(), rightStmts(), wrongStmts(), stmtsOfParts(drifting()),
	} {
		for _, names := range []string{"", "k x"} {
			var parts []impl.Part
			for _, s := range l {
				parts = append(parts, partOf(s, names, names))
			}
			for _, b := range []impl.Batch{batchOf(0, 0, parts...), batchOf(4, 3, parts...), batchOf(-1, math.MaxInt, parts...), {Parts: parts}} {
				if got := impl.StmtsIn(b); !same(got, l) {
					t.Errorf("StmtsIn(%+v) is %+v", b, got)
				}
			}
		}
	}
	for _, b := range impl.Decode(sideBySide(), 0) {
		if got, want := impl.StmtsIn(b), impl.StmtsOf(sideBySide(), sideBySide()[b.Lsn-1].Xid); !same(got, want) {
			t.Errorf("StmtsIn(%+v) is %+v, not %+v", b, got, want)
		}
	}
}

func namesLists(name string, cols []string, keys []string) []list {
	return []list{listOf(name+".Cols", cols, "junk", showOf[string]), listOf(name+".Keys", keys, "junk", showOf[string])}
}

// partsLists tells of the parts themselves only the statement's Kind and table.
func partsLists(name string, l []impl.Part) []list {
	headOf := func(p impl.Part) string { return strconv.Itoa(p.Stmt.Kind) + p.Stmt.Table }
	out := []list{listOf(name, l, impl.Part{Stmt: impl.Stmt{Kind: 9}}, headOf)}
	for i, p := range l {
		at := name + "[" + strconv.Itoa(i) + "]"
		out = append(out, append(stmtLists(at, p.Stmt), namesLists(at, p.Cols, p.Keys)...)...)
	}
	return out
}

// batchesLists tells of the batches themselves only their places.
func batchesLists(name string, l []impl.Batch) []list {
	headOf := func(b impl.Batch) string { return strconv.Itoa(b.Lsn) + " " + strconv.Itoa(b.Prev) }
	out := []list{listOf(name, l, impl.Batch{Lsn: -9, Prev: -9}, headOf)}
	for i, b := range l {
		out = append(out, partsLists(name+"["+strconv.Itoa(i)+"].Parts", b.Parts)...)
	}
	return out
}

func TestP15NamesAreNewMemory(t *testing.T) {
	for _, table := range []string{"b", "d"} {
		d := plainDb(3, 14)
		args := dbLists("d", d)
		var one, two, oneKeys, twoKeys []string
		sayUnchanged(t, "NamesOf", args, func() {
			one, oneKeys = impl.NamesOf(d, table)
			two, twoKeys = impl.NamesOf(d, table)
		})
		sayApart(t, "NamesOf", slices.Concat(args, namesLists("one", one, oneKeys), namesLists("two", two, twoKeys)))
		if cols, keys := impl.NamesOf(plainDb(3, 14), table); !same(cols, []string{"k", "x"}) || !same(keys, []string{"k"}) {
			t.Errorf("behind a caller's writing the names are %v, %v", cols, keys)
		}
	}
}

func TestP15PartsAreNewMemory(t *testing.T) {
	for what, made := range map[string]func() []impl.Stmt{
		"one": func() []impl.Stmt { return goingStmts()[:1] }, "many of a table": func() []impl.Stmt { return []impl.Stmt{put(1), put(3), put(5), empty("b"), put(1)} },
		"all kinds": func() []impl.Stmt { return append(longList(), goingStmts()[0]) },
		"a row twice": func() []impl.Stmt {
			r := plainRow(1)
			return []impl.Stmt{empty("d"), insert("d", r), insert("b", r), update("b", r.Vals[:1], r), remove("d", r.Vals[:1])}
		},
		"a table twice": func() []impl.Stmt {
			x := create(tableOf("m", "k x", "k"))
			other := x
			other.Table = "n"
			return []impl.Stmt{change(x), change(other), insert("m", plainRow(1)), insert("n", plainRow(1))}
		},
	} {
		d, l := plainDb(3, 14), roomy(made())
		args := append(dbLists("d", d), stmtsLists("l", l)...)
		var one, two []impl.Part
		sayUnchanged(t, "PartsOf "+what, args, func() {
			one, _ = impl.PartsOf(d, l)
			two, _ = impl.PartsOf(d, l)
		})
		if len(one) != len(l) || !same(one, two) {
			t.Errorf("PartsOf %s is %+v, and then %+v", what, one, two)
		}
		sayNoneShared(t, "PartsOf "+what, args, append(partsLists("one", one), partsLists("two", two)...))
	}
}

// sharedAndMore are sharingLogs, and behind them commits of a row each and of
// statements with the same lists as the first one's.
func sharedAndMore() [][]impl.Rec {
	var out [][]impl.Rec
	for _, l := range sharingLogs() {
		l = append(l, committed(4, put(7), put(9), empty("b"), l[3].Stmt)...)
		out = append(out, roomy(append(l, committed(5, empty("b"), l[3].Stmt)...)))
	}
	return out
}

func TestP15BatchesAreNewMemory(t *testing.T) {
	for i := range sharedAndMore() {
		l := sharedAndMore()[i]
		args := recsLists("l", l)
		var one, two, some []impl.Batch
		var places, again []int
		sayUnchanged(t, "Decode", args, func() {
			one, two = impl.Decode(l, 0), impl.Decode(l, 0)
			places, again = impl.Commits(l), impl.Commits(l)
			for _, place := range places {
				b, _ := impl.BatchAt(l, place)
				some = append(some, b)
			}
		})
		if len(one) != 3 || !same(one, two) || !same(one, some) {
			t.Errorf("Decode is %+v, and then %+v; each alone %+v", one, two, some)
		}
		answers := slices.Concat(batchesLists("one", one), batchesLists("two", two), batchesLists("some", some))
		answers = append(answers, listOf("places", places, -9, showOf[int]), listOf("again", again, -9, showOf[int]))
		sayNoneShared(t, "Decode", args, answers)
	}
}

func TestP15StatementsOfABatchAreNewMemory(t *testing.T) {
	for i := range sharedAndMore() {
		for n, b := range impl.Decode(sharedAndMore()[i], 0) {
			b.Parts = roomy(b.Parts)
			args := batchesLists("b", []impl.Batch{b})
			var one, two []impl.Stmt
			sayUnchanged(t, "StmtsIn", args, func() {
				one, two = impl.StmtsIn(b), impl.StmtsIn(b)
				impl.BatchText(b)
			})
			if len(one) != len(b.Parts) || len(one) == 0 {
				t.Errorf("StmtsIn of the batch %d is %+v", n, one)
			}
			sayApart(t, "StmtsIn", slices.Concat(args, stmtsLists("one", one), stmtsLists("two", two)))
		}
	}
	r := plainRow(1)
	b := batchOf(4, 3, partOf(insert("b", r), "k x", "k"), partOf(update("b", r.Vals[:1], r), "k x", "k"))
	b.Parts[1].Cols, b.Parts[1].Keys = b.Parts[0].Cols, b.Parts[0].Cols[:1]
	args := batchesLists("b", []impl.Batch{b})
	sayNoneShared(t, "StmtsIn of a row twice", args, stmtsLists("answer", impl.StmtsIn(b)))
}

func TestP15ArgumentsOfDecodingStay(t *testing.T) {
	for i, l := range slices.Concat(rightLogs(), wrongLogs(), sharedAndMore()) {
		l := roomy(l)
		stmts := roomy(stmtsIn(l, 1))
		d := plainDb(2, 3)
		sayUnchanged(t, "log "+strconv.Itoa(i), slices.Concat(recsLists("l", l), stmtsLists("stmts", stmts), dbLists("d", d)), func() {
			impl.Commits(l)
			impl.Last(l)
			impl.Decode(l, -1)
			impl.Decode(l, 3)
			impl.BatchAt(l, 3)
			impl.BatchAt(l, len(l))
			impl.PartsOf(d, stmts)
			impl.NamesOf(d, "b")
			impl.NamesOf(d, "none")
		})
	}
}
