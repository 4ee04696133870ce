package tests

import (
	"math"
	"math/rand"
	"slices"
	"strconv"
	"strings"
	"testing"

	"loop.example/g00462/impl"
)

func folOf(d impl.Db, at int, halt int) impl.Fol { return impl.Fol{Db: d, At: at, Halt: halt} }

// stmtsOf reads statements with a ';' between.
func stmtsOf(t *testing.T, s string) []impl.Stmt {
	t.Helper()
	var l []impl.Stmt
	for _, w := range strings.Split(s, ";") {
		if w = strings.TrimSpace(w); w != "" {
			l = append(l, stmtOf(t, w))
		}
	}
	return l
}

// doneOn is what the statements, told as for stmtsOf, make of the store.
func doneOn(t *testing.T, d impl.Db, s string) impl.Db {
	t.Helper()
	out, code, at := impl.ExecAll(d, stmtsOf(t, s))
	if code != 0 {
		t.Fatalf("%s tells %d at %d on\n%s", s, code, at, impl.DbText(d))
	}
	return out
}

func madeBy(t *testing.T, s string) impl.Db {
	t.Helper()
	return doneOn(t, impl.Db{}, s)
}

// logBy has a transaction for each of these texts, told as for stmtsOf.
func logBy(t *testing.T, l ...string) []impl.Rec {
	t.Helper()
	var out []impl.Rec
	for i, s := range l {
		out = append(out, committed(i+1, stmtsOf(t, s)...)...)
	}
	return roomy(out)
}

// Chapter 12 a second time, in another way than the program does it: each
// question is asked of the faces of the chapters ahead, and rows are held
// against their table one by one.
func takenIn(d impl.Db, p impl.Part) (impl.Db, int) {
	if !impl.DbOk(d) || !impl.StmtOk(p.Stmt) {
		return impl.Db{}, 1
	}
	s, code := stmtByNames(d, p)
	if s.Kind == impl.StDdl {
		if out, code, met := metIn(d, s.Ddl); met {
			return out, code
		}
	}
	if code != 0 {
		return impl.Db{}, code
	}
	return impl.Exec(d, s)
}

// metIn says false where the change is to be done.
func metIn(d impl.Db, c impl.Ddl) (impl.Db, int, bool) {
	x, there := impl.TableOf(d.Cat, c.Table)
	rows := impl.RowsOf(d, c.Table)
	switch {
	case !there:
		return d, 0, c.Kind == impl.DdlDrop
	case c.Kind == impl.DdlCreate && len(rows) > 0:
		return impl.Db{}, 16, true
	case c.Kind == impl.DdlCreate:
		var cols []string
		for _, col := range c.Cols {
			cols = append(cols, col.Name)
		}
		if code := driftIn(cols, c.Keys, x); code != 0 {
			return impl.Db{}, code, true
		}
		return d, 0, true
	case c.Kind == impl.DdlOut:
		return d, 0, impl.ColAt(x, c.Name) < 0
	case c.Kind == impl.DdlName:
		return d, 0, impl.ColAt(x, c.Name) < 0 && impl.ColAt(x, c.To) >= 0
	case c.Kind == impl.DdlAdd && impl.ColAt(x, c.Cols[0].Name) >= 0:
		out, code := filledIn(d, x, rows, c.Cols[0])
		return out, code, true
	}
	return d, 0, false
}

func filledIn(d impl.Db, x impl.Table, rows []impl.Row, c impl.Col) (impl.Db, int) {
	at := impl.ColAt(x, c.Name)
	if x.Cols[at].Ty != c.Ty {
		return impl.Db{}, 15
	}
	for _, r := range rows {
		r.Vals[at] = impl.Val{}
		if c.Has {
			r.Vals[at] = c.Def
		}
		if !impl.RowOk(x, r) || slices.Contains(x.Keys, c.Name) {
			return impl.Db{}, 14
		}
	}
	place := slices.IndexFunc(d.Cat.Tables, func(y impl.Table) bool { return y.Name == x.Name })
	return with(d, place, rows), 0
}

func folOkIn(f impl.Fol) bool {
	return impl.DbOk(f.Db) && slices.Contains(allPlaces(), f.At) && f.Halt == max(f.Halt, 0)
}

func allPlaces() []int {
	var l []int
	for n := range 401 {
		l = append(l, n)
	}
	return l
}

func folTakenIn(f impl.Fol, b impl.Batch) (impl.Fol, int) {
	if !folOkIn(f) || !impl.BatchOk(b) {
		return impl.Fol{}, 1
	}
	if f.Halt != 0 {
		return impl.Fol{}, 20
	}
	if f.At >= b.Lsn {
		return impl.Fol{}, 21
	}
	if f.At != b.Prev {
		return impl.Fol{}, 22
	}
	d := f.Db
	for _, p := range b.Parts {
		next, code := takenIn(d, p)
		if code != 0 {
			return folOf(f.Db, f.At, code), 30
		}
		d = next
	}
	return folOf(d, b.Lsn, 0), 0
}

func sayTaken(t *testing.T, d impl.Db, p impl.Part, want impl.Db, code int) {
	t.Helper()
	got, c := impl.TakePart(d, p)
	if c != code || !same(got, want) || !impl.DbOk(got) {
		t.Errorf("TakePart of %s by %v, key %v on\n%sis %d\n%sand not %d\n%s", impl.StmtText(p.Stmt), p.Cols, p.Keys, impl.DbText(d), c, impl.DbText(got), code, impl.DbText(want))
	}
}

func sayFolTaken(t *testing.T, what string, f impl.Fol, b impl.Batch, want impl.Fol, code int) {
	t.Helper()
	if got, c := impl.FolTake(f, b); c != code || !same(got, want) {
		t.Errorf("%s: FolTake(%+v, %+v) is %+v, %d; not %+v, %d", what, f, b, got, c, want, code)
	}
}

func TestP15FolOk(t *testing.T) {
	for _, d := range rightDbs() {
		for _, at := range []int{math.MinInt, -400, -1, 0, 1, 2, 399, 400, 401, 402, 1 << 32, math.MaxInt} {
			for _, halt := range []int{math.MinInt, -20, -1, 0, 1, 2, 14, 30, impl.MaxNum, impl.MaxNum + 1, math.MaxInt} {
				want := at >= 0 && at <= 400 && halt >= 0
				if got := impl.FolOk(folOf(d, at, halt)); got != want {
					t.Errorf("FolOk of a right store, at %d, halt %d is %v", at, halt, got)
				}
			}
		}
	}
	for _, d := range wrongDbs() {
		for _, f := range []impl.Fol{folOf(d, 0, 0), folOf(d, 1, 0), folOf(d, impl.MaxRecs, 0), folOf(d, 0, 14), folOf(d, -1, -1)} {
			if impl.FolOk(f) {
				t.Errorf("FolOk(%+v) is true", f)
			}
		}
	}
	if !impl.FolOk(impl.Fol{}) || !impl.FolOk(folOf(impl.Db{Cat: catOf(), Data: []impl.Rows{}}, 3, 5)) {
		t.Error("FolOk of a store without tables is false")
	}
}

func TestP15FolNew(t *testing.T) {
	fresh := 0
	for _, d := range rightDbs() {
		f, ok := impl.FolNew(d)
		if impl.Count(d) == 0 {
			fresh++
			if !ok || !same(f, folOf(d, 0, 0)) || !impl.FolOk(f) {
				t.Errorf("FolNew(%+v) is %+v, %v", d, f, ok)
			}
		} else if ok || !same(f, impl.Fol{}) {
			t.Errorf("FolNew(%+v) with rows is %+v, %v", d, f, ok)
		}
	}
	if fresh < 5 {
		t.Errorf("only %d stores have no rows", fresh)
	}
	for _, d := range wrongDbs() {
		if f, ok := impl.FolNew(d); ok || !same(f, impl.Fol{}) {
			t.Errorf("FolNew(%+v) is %+v, %v", d, f, ok)
		}
	}
	for n := range impl.MaxTables {
		counts := make([]int, impl.MaxTables)
		counts[n] = 1
		if f, ok := impl.FolNew(plainDb(counts...)); ok || !same(f, impl.Fol{}) {
			t.Errorf("FolNew with a row in the table %d is %+v, %v", n, f, ok)
		}
	}
}

// nearAndFar has a table with one row, one without rows, and t, whose columns
// are others than those of "i s x" and stand in another order.
func nearAndFar(t *testing.T) impl.Db {
	t.Helper()
	return madeBy(t, `create a ( k int not ) ( z int ) key k; insert a 7 1;
		create e ( i int not ) ( n int not ) ( x text ) ( m int not =9 ) key i;
		create t ( d text ='def' ) ( s text not ) ( m int not =9 ) ( x text ) ( i int not ) ( y int ) key s i;
		insert t 'mine' 'a' 4 'x' 5 6; insert t null 'b' 0 null 5 null; insert t 'def' 'b' 9 'z' 6 8`)
}

// A case of TakePart: the part, its names, the code, and where that is 0 the
// statements that do the same.
type takeCase struct {
	stmt, cols, keys string
	code             int
	same             string
}

func sayTakes(t *testing.T, d impl.Db, l []takeCase) {
	t.Helper()
	for _, c := range l {
		var want impl.Db
		if c.code == 0 {
			want = doneOn(t, d, c.same)
		}
		sayTaken(t, d, partOf(stmtOf(t, c.stmt), c.cols, c.keys), want, c.code)
	}
}

func TestP15TakePartOfRows(t *testing.T) {
	sayTakes(t, nearAndFar(t), []takeCase{
		{"insert t 5 'c' 'q'", "i s x", "i s", 0, "insert t 'def' 'c' 9 'q' 5 null"}, {"insert t null 'c' 5", "x s i", "s i", 0, "insert t 'def' 'c' 9 null 5 null"},
		{"insert t 1 'a'", "i s", "s i", 0, "insert t 'def' 'a' 9 null 1 null"}, {"insert t 1 2 'a' 3 'b' 'c'", "y i s m x d", "i s", 0, "insert t 'c' 'a' 3 'b' 2 1"},
		{"insert e 1 2", "i n", "i", 0, "insert e 1 2 null 9"}, {"insert e 2 1", "n i", "i", 0, "insert e 1 2 null 9"}, {"insert a 6", "k", "k", 0, "insert a 6 null"},
		{"update t 5 'a' to 5 'a' 'q'", "i s x", "i s", 0, "update t 'a' 5 to 'mine' 'a' 4 'q' 5 6"}, {"update t 'b' 5 to 'c' 7", "s i", "s i", 0, "update t 'b' 5 to null 'c' 0 null 7 null"},
		{"update t 5 'b' to 1 5 'b'", "m i s", "i s", 0, "update t 'b' 5 to null 'b' 1 null 5 null"}, {"update a 7 to 8", "k", "k", 0, "update a 7 to 8 1"}, {"update a 7 to 7", "k", "k", 0, ""},
		{"delete t 5 'a'", "i s x", "i s", 0, "delete t 'a' 5"}, {"delete t 'b' 6", "i s", "s i", 0, "delete t 'b' 6"}, {"delete a 7", "k z", "k", 0, "delete a 7"}, {"clear t", "i s x", "i s", 0, "clear t"},
		{"clear e", "i n", "i", 0, ""}, {"clear a", "z k", "k", 0, "clear a"},
		{"insert z 5", "i", "i", 10, ""}, {"update z 5 to 5", "i", "i", 10, ""}, {"delete z 5", "", "", 10, ""}, {"clear z", "", "", 10, ""}, {"insert t 5 'c' 'q'", "i s z", "i s", 11, ""}, {"clear t", "i s z", "i s", 11, ""},
		{"insert t 5 'c' 'q'", "i s x", "i", 12, ""}, {"delete t 5", "i s x", "i", 12, ""}, {"clear t", "", "", 12, ""}, {"clear e", "i", "i", 13, ""}, {"insert e 5", "i", "i", 13, ""}, {"delete e 5", "i", "i", 13, ""},
		{"insert t 5 'c'", "i s x", "i s", 1, ""}, {"insert t 5 'c' 'q' 'q'", "i s x", "i s", 1, ""}, {"clear t", "i s i", "i s", 1, ""}, {"clear t", "i", "s", 1, ""}, {"delete t 5", "i s", "i s", 1, ""},
		{"insert t 'c' 5", "i s", "i s", 14, ""}, {"insert t 5 'c' null", "i s m", "i s", 14, ""}, {"insert t 5 'c' 'q'", "i s y", "i s", 14, ""}, {"update t 5 'a' to 5 'a' null", "i s m", "i s", 14, ""}, {"delete t 'a' 5", "i s", "i s", 14, ""},
		{"insert t 5 'a'", "i s", "i s", 13, ""}, {"insert a 7", "k", "k", 13, ""}, {"update t 5 'a' to 5 'b'", "i s", "i s", 13, ""}, {"update t 6 'a' to 6 'a'", "i s", "i s", 15, ""}, {"update e 1 to 1 1", "i n", "i", 15, ""},
		{"update t 6 'a' to 5 'b'", "i s", "i s", 15, ""}, {"delete t 6 'a'", "i s", "i s", 15, ""}, {"delete e 0", "i n", "i", 15, ""}, {"delete a 6", "k", "k", 15, ""},
	})
	full := plainDb(0, impl.MaxRows)
	sayTaken(t, full, partOf(insert("d", plainRow(1)), "k x", "k"), impl.Db{}, 14)
	sayTaken(t, full, partOf(insert("d", plainRow(2)), "k x", "k"), impl.Db{}, 13)
	sayTaken(t, full, partOf(insert("b", plainRow(1)), "k x", "k"), with(full, 0, []impl.Row{plainRow(1)}), 0)
}

func TestP15TakePartOfTables(t *testing.T) {
	sayTakes(t, nearAndFar(t), []takeCase{
		{"create t ( i int not ) ( s text not ) ( x text ) key i s", "", "", 16, ""}, {"create a ( k int not ) ( z int ) key k", "", "", 16, ""}, {"create a ( q int not ) key q", "", "", 16, ""}, {"create t ( i int not ) key i", "", "", 16, ""},
		{"create e ( i int not ) ( n int not ) ( x text ) ( m int not =9 ) key i", "", "", 0, ""}, {"create e ( x text ) ( m int not =9 ) ( n int not ) ( i int not ) key i", "", "", 0, ""}, {"create e ( i int not ) ( n int not ) key i", "", "", 0, ""},
		{"create e ( n int ) ( i int not ) key i", "", "", 0, ""}, {"create e ( n text ='v' ) ( i bool not ) ( x int not ) key i", "", "", 0, ""}, {"create e ( m int ) ( i int not =4 ) ( n bool ) key i", "x y", "z", 0, ""},
		{"create e ( i int not ) key i", "", "", 13, ""}, {"create e ( i int not ) ( x text ) ( m int ) key i", "", "", 13, ""}, {"create e ( i int not ) ( n int not ) ( z text ) key i", "", "", 11, ""}, {"create e ( z int not ) key z", "", "", 11, ""},
		{"create e ( i int not ) ( n int not ) key n", "", "", 12, ""}, {"create e ( i int not ) ( n int not ) key i n", "", "", 12, ""}, {"create e ( i int not ) ( x text not ) key x", "", "", 12, ""}, {"create e ( i int not ) ( z int not ) key z", "", "", 11, ""},
		{"create b ( k int not ) key k", "", "", 0, "create b ( k int not ) key k"}, {"create z ( x text ='v' ) ( k int not ) key k", "q q", "z", 0, "create z ( x text ='v' ) ( k int not ) key k"},
		{"drop t", "", "", 0, "drop t"}, {"drop a", "k", "q", 0, "drop a"}, {"drop e", "", "", 0, "drop e"}, {"drop z", "", "", 0, ""}, {"drop b", "k", "k k", 0, ""}, {"drop tt", "", "", 0, ""},
	})
	most := plainDb(0, 0, 0, 0, 0, 0)
	sayTaken(t, most, partOf(change(create(tableOf("z", "k", "k"))), "", ""), impl.Db{}, 13)
	sayTaken(t, most, partOf(change(create(tableOf("d", "k", "k"))), "", ""), most, 0)
	sayTaken(t, most, partOf(change(drop("z")), "", ""), most, 0)
	sayTaken(t, impl.Db{}, partOf(change(drop("z")), "", ""), impl.Db{}, 0)
	sayTaken(t, impl.Db{}, partOf(change(create(plainTable())), "", ""), dbOf(catOf(plainTable()), nil), 0)
}

// TestP15TakePartOfATwoColumnKey has keys in another order than the table's.
func TestP15TakePartOfATwoColumnKey(t *testing.T) {
	d := madeBy(t, "create e ( s text not ) ( x int ) ( i int not ) key s i")
	sayTakes(t, d, []takeCase{
		{"create e ( i int not ) ( s text not ) key i s", "", "", 0, ""}, {"create e ( s text not ) ( i int not ) key s i", "", "", 0, ""}, {"create e ( i int not ) ( s text not ) key s", "", "", 12, ""}, {"create e ( s text not ) key s", "", "", 12, ""},
		{"create e ( i int not ) ( x int not ) ( s text not ) key i x", "", "", 12, ""}, {"create e ( i int not ) ( x int not ) ( s text not ) key i x s", "", "", 12, ""}, {"create e ( i int not ) ( s text not ) ( y int ) key i s", "", "", 11, ""},
	})
}

func TestP15TakePartOfColumns(t *testing.T) {
	sayTakes(t, nearAndFar(t), []takeCase{
		{"out t none", "", "", 0, ""}, {"out e s", "i", "q q", 0, ""}, {"out z none", "", "", 4, ""}, {"out z x", "", "", 4, ""}, {"out t d", "", "", 0, "out t d"}, {"out e n", "", "", 0, "out e n"}, {"out t s", "", "", 18, ""}, {"out t i", "", "", 18, ""}, {"out a k", "", "", 18, ""},
		{"name t none x", "", "", 0, ""}, {"name t none s", "", "", 0, ""}, {"name e none i", "q", "q", 0, ""}, {"name t none nn", "", "", 17, ""}, {"name t none none", "", "", 17, ""}, {"name t x y", "", "", 15, ""}, {"name t x s", "", "", 15, ""}, {"name t s x", "", "", 15, ""},
		{"name t x x", "", "", 15, ""}, {"name t x nn", "", "", 0, "name t x nn"}, {"name t s nn", "", "", 0, "name t s nn"}, {"name a k kk", "", "", 0, "name a k kk"}, {"name z x y", "", "", 4, ""}, {"name z none x", "", "", 4, ""}, {"name z x x", "", "", 4, ""},
		{"add t nn int =4", "", "", 0, "add t nn int =4"}, {"add e nn text not ='v'", "", "", 0, "add e nn text not ='v'"}, {"add z nn int", "", "", 4, ""}, {"add z x text", "", "", 4, ""},
		{"add t y int =5", "", "", 0, "update t 'a' 5 to 'mine' 'a' 4 'x' 5 5; update t 'b' 5 to null 'b' 0 null 5 5; update t 'b' 6 to 'def' 'b' 9 'z' 6 5"},
		{"add t y int", "", "", 0, "update t 'a' 5 to 'mine' 'a' 4 'x' 5 null; update t 'b' 6 to 'def' 'b' 9 'z' 6 null"}, {"add t y int =null", "", "", 0, "update t 'a' 5 to 'mine' 'a' 4 'x' 5 null; update t 'b' 6 to 'def' 'b' 9 'z' 6 null"},
		{"add t d text", "", "", 0, "update t 'a' 5 to null 'a' 4 'x' 5 6; update t 'b' 6 to null 'b' 9 'z' 6 8"}, {"add t d text not ='w'", "q q", "z", 0, "update t 'a' 5 to 'w' 'a' 4 'x' 5 6; update t 'b' 5 to 'w' 'b' 0 null 5 null; update t 'b' 6 to 'w' 'b' 9 'z' 6 8"},
		{"add t m int not =3", "", "", 0, "update t 'a' 5 to 'mine' 'a' 3 'x' 5 6; update t 'b' 5 to null 'b' 3 null 5 null; update t 'b' 6 to 'def' 'b' 3 'z' 6 8"}, {"add t m int =9", "", "", 0, "update t 'a' 5 to 'mine' 'a' 9 'x' 5 6; update t 'b' 5 to null 'b' 9 null 5 null"},
		{"add a z int =1", "", "", 0, ""}, {"add a z int", "", "", 0, "update a 7 to 7 null"},
		{"add t m int", "", "", 14, ""}, {"add t m int =null", "", "", 14, ""}, {"add t s text ='v'", "", "", 14, ""}, {"add t s text not ='v'", "", "", 14, ""}, {"add t i int", "", "", 14, ""}, {"add a k int =7", "", "", 14, ""}, {"add a k int not =7", "", "", 14, ""}, {"add a k int", "", "", 14, ""},
		{"add t y text", "", "", 15, ""}, {"add t y bool =true", "", "", 15, ""}, {"add t m text", "", "", 15, ""}, {"add t s int =4", "", "", 15, ""}, {"add t i text not ='v'", "", "", 15, ""}, {"add a k bool", "", "", 15, ""}, {"add a z text not ='v'", "", "", 15, ""},
		{"add e n int", "", "", 0, ""}, {"add e n int =null", "", "", 0, ""}, {"add e n int not =4", "", "", 0, ""}, {"add e m int", "", "", 0, ""}, {"add e m int =4", "", "", 0, ""}, {"add e i int", "", "", 0, ""}, {"add e i int not =4", "", "", 0, ""},
		{"add e x text ='v'", "", "", 0, ""}, {"add e x text not ='v'", "", "", 0, ""}, {"add e x text", "", "", 0, ""}, {"add e x int", "", "", 15, ""}, {"add e i text", "", "", 15, ""}, {"add e n bool not =true", "", "", 15, ""},
	})
	wide := dbOf(catOf(tableOf("t", namesOf("k", impl.MaxCols), "k")), nil)
	sayTaken(t, wide, partOf(change(add("t", freeCol("n"))), "", ""), impl.Db{}, 16)
	sayTaken(t, wide, partOf(change(add("t", freeCol("ch"))), "", ""), wide, 0)
}

func TestP15TakePartOfWrongStoresAndStatements(t *testing.T) {
	parts := func(s impl.Stmt) []impl.Part {
		return []impl.Part{partOf(s, "k x", "k"), partOf(s, "", ""), partOf(s, "q q", "q")}
	}
	for _, d := range wrongDbs() {
		for _, s := range []impl.Stmt{put(1), update("t", intKey(1), plainRow(1)), remove("b", intKey(0)), empty("none"), change(drop("b")), change(drop("none")), change(create(tableOf("zz", "k", "k"))), change(add("b", freeCol("x"))), {}} {
			for _, p := range parts(s) {
				sayTaken(t, d, p, impl.Db{}, 1)
			}
		}
	}
	for _, d := range []impl.Db{{}, plainDb(3, 3), plainDb(0), dbOf(catOf(plainTable()), evenRows(2)), dbOf(catOf(plainTable()), nil)} {
		for _, s := range wrongStmts() {
			for _, p := range parts(s) {
				sayTaken(t, d, p, impl.Db{}, 1)
			}
		}
	}
}

// metStores have rows in some of their tables, none in others, and columns of
// each kind.
func metStores(t *testing.T) []impl.Db {
	l := []impl.Db{nearAndFar(t), farStore(t), plainDb(0, 0, 0, 0, 0, 0), plainDb(3, 0, 1, 2, 0, 1)}
	for _, x := range append(rightTables(), driftedTables()...) {
		l = append(l, dbOf(catOf(x), nil), dbOf(catOf(x), []impl.Row{fillOf(x)}))
	}
	return append(l, rightDbs()...)
}

func TestP15TakePartOfAllChanges(t *testing.T) {
	seen := map[int]int{}
	changes := rightDdls()
	for _, x := range driftedTables() {
		changes = append(changes, create(x))
		for _, c := range x.Cols {
			for _, not := range []bool{false, true} {
				d := add("t", impl.Col{Name: c.Name, Ty: c.Ty, Not: not, Has: true, Def: impl.Val{Ty: c.Ty}})
				changes = append(changes, d, add("t", impl.Col{Name: c.Name, Ty: c.Ty}), add("t", impl.Col{Name: c.Name, Ty: c.Ty%3 + 1, Has: not}), outOf("t", c.Name), rename("t", c.Name, "s"), rename("t", "s", c.Name))
			}
		}
	}
	for _, d := range metStores(t) {
		for i, x := range changes {
			p := partOf(change(x), []string{"", "k x", "q q"}[i%3], []string{"", "k"}[i%2])
			want, code := takenIn(d, p)
			seen[code]++
			sayTaken(t, d, p, want, code)
		}
	}
	saySeen(t, seen, 0, 4, 11, 12, 13, 14, 15, 16, 17, 18)
}

func TestP15TakePartOfAllStatements(t *testing.T) {
	seen := map[int]int{}
	eachStmtByNames(func(d impl.Db, p impl.Part) {
		want, code := takenIn(d, p)
		seen[code]++
		sayTaken(t, d, p, want, code)
	})
	saySeen(t, seen, 0, 1, 10, 11, 12, 13, 14, 15)
}

// TestP9PartsThatGoLeaveTheStoreRight also asks that what is so already changes
// nothing where it comes a second time.
func TestP9PartsThatGoLeaveTheStoreRight(t *testing.T) {
	for _, d := range metStores(t) {
		for _, x := range rightDdls() {
			p := partOf(change(x), "", "")
			once, code := impl.TakePart(d, p)
			twice, again := impl.TakePart(once, p)
			if !impl.DbOk(once) || code == 0 && impl.Count(once) > impl.Count(d) {
				t.Errorf("TakePart of %+v on %+v is %+v, %d", x, d, once, code)
			}
			if code == 0 && x.Kind != impl.DdlCreate && (again != 0 || !same(once, twice)) {
				t.Errorf("a second time TakePart of %+v on %+v is %d, and %+v not %+v", x, d, again, twice, once)
			}
		}
	}
}

// TestP15FolTakeOfSomeBatches has the follower at 3, as setUp makes it, with a row.
func TestP15FolTakeOfSomeBatches(t *testing.T) {
	d := plainDb(1)
	f := folOf(d, 3, 0)
	one := with(d, 0, []impl.Row{plainRow(0), plainRow(1)})
	for _, c := range []struct {
		what string
		b    impl.Batch
		want impl.Fol
		code int
	}{
		{"no parts", batchOf(5, 3), folOf(d, 5, 0), 0}, {"no parts, the next place", batchOf(4, 3), folOf(d, 4, 0), 0}, {"no parts, the last place", batchOf(400, 3), folOf(d, 400, 0), 0}, {"a part", batchOf(7, 3, putPart(1)), folOf(one, 7, 0), 0},
		{"parts", batchOf(7, 3, partOf(remove("b", intKey(0)), "k x", "k"), partOf(change(rename("b", "x", "y")), "", ""), partOf(change(drop("none")), "", ""), partOf(change(drop("b")), "", "")), folOf(impl.Db{}, 7, 0), 0},
		{"a second time", batchOf(3, 0, putPart(1)), impl.Fol{}, 21}, {"long gone", batchOf(1, 0), impl.Fol{}, 21}, {"what is behind it, with another gap", batchOf(3, 2), impl.Fol{}, 21}, {"a gap", batchOf(7, 5, putPart(1)), impl.Fol{}, 22}, {"a gap of one", batchOf(5, 4), impl.Fol{}, 22},
		{"from ahead", batchOf(7, 2, putPart(1)), impl.Fol{}, 22}, {"from the beginning", batchOf(7, 0), impl.Fol{}, 22}, {"the last", batchOf(400, 399), impl.Fol{}, 22},
		{"no place", batchOf(0, 0), impl.Fol{}, 1}, {"no place below", batchOf(-1, 3), impl.Fol{}, 1}, {"a place above all", batchOf(401, 3), impl.Fol{}, 1}, {"Prev its own", batchOf(3, 3), impl.Fol{}, 1}, {"Prev behind it", batchOf(2, 3), impl.Fol{}, 1}, {"Prev below 0", batchOf(5, -1), impl.Fol{}, 1},
		{"a wrong statement", batchOf(7, 3, partOf(impl.Stmt{}, "", "")), impl.Fol{}, 1}, {"a wrong statement behind", batchOf(7, 3, putPart(1), partOf(put(1), "K", "")), impl.Fol{}, 1}, {"a wrong one a second time", batchOf(3, 0, partOf(impl.Stmt{}, "", "")), impl.Fol{}, 1},
		{"too many parts", batchOf(7, 3, manyParts(61)...), impl.Fol{}, 1},
		{"one that is there", batchOf(7, 3, putPart(0)), folOf(d, 3, 13), 30}, {"the second is there", batchOf(7, 3, putPart(1), putPart(1)), folOf(d, 3, 13), 30}, {"names twice", batchOf(7, 3, partOf(put(1), "k k", "k")), folOf(d, 3, 1), 30}, {"too few values", batchOf(7, 3, partOf(insert("b", rowOf(intVal(1))), "k x", "k")), folOf(d, 3, 1), 30},
		{"no such table", batchOf(7, 3, putPart(1), partOf(empty("none"), "k", "k")), folOf(d, 3, 10), 30}, {"a name too many", batchOf(7, 3, partOf(empty("b"), "k z", "k")), folOf(d, 3, 11), 30}, {"other keys", batchOf(7, 3, partOf(empty("b"), "k", "")), folOf(d, 3, 12), 30}, {"a table with rows", batchOf(7, 3, setUpBatch().Parts...), folOf(d, 3, 16), 30},
		{"no table to change", batchOf(7, 3, partOf(change(outOf("none", "x")), "", "")), folOf(d, 3, 4), 30}, {"a key that would go", batchOf(7, 3, partOf(empty("b"), "k", "k"), partOf(change(outOf("b", "k")), "", "")), folOf(d, 3, 18), 30}, {"the first of two codes", batchOf(7, 3, putPart(0), partOf(empty("none"), "", "")), folOf(d, 3, 13), 30},
		{"the last part's", batchOf(400, 3, partOf(change(drop("b")), "", ""), partOf(change(create(plainTable())), "", ""), putPart(1)), folOf(d, 3, 10), 30},
	} {
		sayFolTaken(t, c.what, f, c.b, c.want, c.code)
	}
}

// oddFollowers are some that are right and some that aren't, at many places.
func oddFollowers() []impl.Fol {
	l := []impl.Fol{{}, folOf(plainDb(2), -1, 0), folOf(plainDb(2), 401, 0), folOf(plainDb(2), math.MaxInt, 0), folOf(plainDb(2), math.MinInt, 1), folOf(plainDb(2), 3, -1), folOf(plainDb(2), 3, math.MinInt)}
	for _, at := range []int{0, 1, 2, 3, 8, 9, 399, 400} {
		l = append(l, folOf(plainDb(), at, 0), folOf(plainDb(0), at, 0), folOf(plainDb(2), at, 0), folOf(plainDb(2, 3), at, 0), folOf(plainDb(2), at, 1), folOf(plainDb(2), at, 14), folOf(plainDb(2), at, math.MaxInt))
	}
	for _, d := range wrongDbs()[:30] {
		l = append(l, folOf(d, 0, 0), folOf(d, 3, 14), folOf(d, 401, -1))
	}
	return l
}

// oddBatches are some that are right and some that aren't, at many places.
func oddBatches() []impl.Batch {
	var l []impl.Batch
	for _, p := range [][2]int{{0, 0}, {1, 0}, {3, 0}, {3, 3}, {4, 3}, {5, 3}, {9, 8}, {9, 3}, {9, 9}, {9, 10}, {9, -1}, {-9, 3}, {399, 398}, {400, 399}, {400, 3}, {400, 0}, {401, 400}, {401, 3}, {math.MaxInt, 3}, {math.MinInt, math.MinInt}} {
		for _, parts := range [][]impl.Part{nil, {putPart(1)}, {putPart(1), putPart(2)}, {putPart(1), putPart(1)}, setUpBatch().Parts, {partOf(change(drop("b")), "", "")}, {partOf(impl.Stmt{}, "", "")}, {putPart(1), partOf(put(2), "k x", "k")}, {putPart(0)}, manyParts(61)} {
			l = append(l, batchOf(p[0], p[1], parts...))
		}
	}
	return append(l, impl.Batch{}, impl.Batch{Lsn: 4, Prev: 3, Parts: []impl.Part{{Stmt: empty("b"), Cols: strings.Fields("a b c d e f g h i"), Keys: []string{"a"}}}}, impl.Batch{Lsn: 4, Prev: 3, Parts: []impl.Part{{Stmt: empty("b"), Cols: []string{"k", ""}}}})
}

func TestP15FolTakeOfManyFollowersAndBatches(t *testing.T) {
	seen := map[int]int{}
	for _, f := range oddFollowers() {
		for _, b := range oddBatches() {
			want, code := folTakenIn(f, b)
			seen[code]++
			sayFolTaken(t, "many", f, b, want, code)
		}
	}
	saySeen(t, seen, 0, 1, 20, 21, 22, 30)
}

// TestP15WhichCodeOfFolTakeComesFirst has followers and batches for which more
// than one would fit.
func TestP15WhichCodeOfFolTakeComesFirst(t *testing.T) {
	wrong := batchOf(3, 3, partOf(impl.Stmt{}, "", ""))
	for _, c := range []struct {
		f    impl.Fol
		b    impl.Batch
		code int
	}{
		{folOf(plainDb(2), 5, 14), wrong, 1}, {folOf(plainDb(2), -1, 14), batchOf(3, 0), 1}, {folOf(wrongDbs()[0], 5, 14), batchOf(3, 0), 1}, {folOf(plainDb(2), 5, 0), wrong, 1}, {folOf(plainDb(2), 3, -1), batchOf(3, 0), 1},
		{folOf(plainDb(2), 5, 14), batchOf(3, 0), 20}, {folOf(plainDb(2), 5, 14), batchOf(5, 4), 20}, {folOf(plainDb(2), 5, 1), batchOf(9, 8), 20}, {folOf(plainDb(2), 5, 30), batchOf(9, 5, putPart(0)), 20}, {folOf(plainDb(2), 5, 20), batchOf(9, 5), 20}, {folOf(plainDb(2), 5, math.MaxInt), batchOf(9, 5), 20},
		{folOf(plainDb(2), 5, 0), batchOf(5, 4, putPart(0)), 21}, {folOf(plainDb(2), 5, 0), batchOf(4, 3), 21}, {folOf(plainDb(2), 400, 0), batchOf(400, 399), 21}, {folOf(plainDb(2), 400, 0), batchOf(1, 0), 21},
		{folOf(plainDb(2), 5, 0), batchOf(6, 4, putPart(0)), 22}, {folOf(plainDb(2), 0, 0), batchOf(400, 399, putPart(0)), 22}, {folOf(plainDb(2), 0, 0), batchOf(2, 1), 22},
	} {
		sayFolTaken(t, "more than one fits", c.f, c.b, impl.Fol{}, c.code)
	}
	sayFolTaken(t, "the last place", folOf(plainDb(2), 399, 0), batchOf(400, 399), folOf(plainDb(2), 400, 0), 0)
	sayFolTaken(t, "from 0 to the last place", folOf(plainDb(2), 0, 0), batchOf(400, 0), folOf(plainDb(2), 400, 0), 0)
	sayFolTaken(t, "the first place", impl.Fol{}, batchOf(1, 0), folOf(impl.Db{}, 1, 0), 0)
}

// TestP2ABatchIsTakenWholeOrNotAtAll puts one part that doesn't go behind each
// number of parts that go.
func TestP2ABatchIsTakenWholeOrNotAtAll(t *testing.T) {
	bad := map[int]impl.Part{
		1: partOf(insert("zz", rowOf(intVal(1))), "k x", "k"), 4: partOf(change(add("none", freeCol("x"))), "", ""), 10: partOf(empty("none"), "k", "k"), 11: partOf(empty("zz"), "k q", "k"), 12: partOf(empty("zz"), "k x", "x"), 13: partOf(insert("zz", plainRow(0)), "k x", "k"),
		14: partOf(insert("zz", plainRow(1)), "x k", "k"), 15: partOf(remove("zz", intKey(5)), "k x", "k"), 16: partOf(change(create(tableOf("zz", "k", "k"))), "", ""), 17: partOf(change(rename("zz", "none", "nn")), "", ""), 18: partOf(change(outOf("zz", "k")), "", ""),
	}
	all := drifting()
	f := folOf(dbOf(catOf(tableOf("zz", "k x", "k")), evenRows(2)), 9, 0)
	for n := range len(all) + 1 {
		d, code, at := impl.ExecAll(f.Db, stmtsOfParts(all[:n]))
		if code != 0 {
			t.Fatalf("the first %d parts tell %d at %d", n, code, at)
		}
		sayFolTaken(t, "those that go", f, batchOf(20, 9, all[:n]...), folOf(d, 20, 0), 0)
		for code, p := range bad {
			sayFolTaken(t, "the last doesn't go", f, batchOf(20, 9, append(slices.Clone(all[:n]), p)...), folOf(f.Db, 9, code), 30)
			sayFolTaken(t, "one doesn't go", f, batchOf(20, 9, slices.Insert(slices.Clone(all), n, p)...), folOf(f.Db, 9, code), 30)
		}
	}
	most := append(manyParts(impl.MaxParts-1), partOf(empty("none"), "", ""))
	sayFolTaken(t, "the last of the most", folOf(plainDb(0), 9, 0), batchOf(20, 9, most...), folOf(plainDb(0), 9, 10), 30)
}

func TestP2NothingIsTakenOnceHalted(t *testing.T) {
	for _, halt := range []int{1, 4, 14, 20, 30, math.MaxInt} {
		f := folOf(plainDb(2), 3, halt)
		batches := []impl.Batch{batchOf(5, 3), batchOf(5, 3, putPart(1)), batchOf(5, 3, putPart(0)), batchOf(3, 0), batchOf(9, 5), batchOf(400, 3), batchOf(1, 0)}
		for _, b := range batches {
			sayFolTaken(t, "halted", f, b, impl.Fol{}, 20)
		}
		got, codes := impl.FolTakeAll(f, batches)
		if !same(got, f) || !slices.Equal(codes, slices.Repeat([]int{20}, len(batches))) {
			t.Errorf("halted by %d FolTakeAll is %+v, %v", halt, got, codes)
		}
	}
}

func sayFolTakenAll(t *testing.T, what string, f impl.Fol, l []impl.Batch, want impl.Fol, codes ...int) {
	t.Helper()
	if got, c := impl.FolTakeAll(f, l); !same(got, want) || !slices.Equal(c, codes) {
		t.Errorf("%s: FolTakeAll is %+v, %v; not %+v, %v", what, got, c, want, codes)
	}
}

func TestP15FolTakeAllOfSomeLists(t *testing.T) {
	none, three := impl.Fol{}, folOf(plainDb(0), 3, 0)
	one := folOf(with(plainDb(0), 0, []impl.Row{plainRow(1)}), 5, 0)
	first, second, wrong, bad := setUpBatch(), batchOf(5, 3, putPart(1)), batchOf(5, 3, partOf(impl.Stmt{}, "", "")), batchOf(5, 3, putPart(1), putPart(1))
	third, fourth := batchOf(6, 5), batchOf(8, 6, partOf(remove("b", intKey(1)), "x k", "k"))
	sayFolTakenAll(t, "no batches", three, nil, three)
	sayFolTakenAll(t, "no batches", three, []impl.Batch{}, three)
	sayFolTakenAll(t, "no batches, halted", folOf(plainDb(2), 7, 9), nil, folOf(plainDb(2), 7, 9))
	sayFolTakenAll(t, "in order", none, []impl.Batch{first, second, third, fourth}, folOf(plainDb(0), 8, 0), 0, 0, 0, 0)
	sayFolTakenAll(t, "each twice", none, []impl.Batch{first, first, second, second, third, third}, folOf(one.Db, 6, 0), 0, 21, 0, 21, 0, 21)
	sayFolTakenAll(t, "backwards", none, []impl.Batch{fourth, third, second, first}, three, 22, 22, 22, 0)
	sayFolTakenAll(t, "a gap", none, []impl.Batch{first, third, second, fourth}, one, 0, 22, 0, 22)
	sayFolTakenAll(t, "wrong ones between", none, []impl.Batch{wrong, first, wrong, {}, second, wrong, batchOf(9, 9)}, one, 1, 0, 1, 1, 0, 1, 1)
	sayFolTakenAll(t, "one that halts", none, []impl.Batch{first, bad, second, third, first, wrong, bad}, folOf(plainDb(0), 3, 13), 0, 30, 20, 20, 20, 1, 20)
	sayFolTakenAll(t, "refused, taken, halted and refused", none, []impl.Batch{second, first, first, bad, second, wrong}, folOf(plainDb(0), 3, 13), 22, 0, 21, 30, 20, 1)
	sayFolTakenAll(t, "one that halts at once", folOf(plainDb(2), 0, 0), []impl.Batch{first, first}, folOf(plainDb(2), 0, 16), 30, 20)
	sayFolTakenAll(t, "from a place", three, []impl.Batch{first, second, third}, folOf(one.Db, 6, 0), 21, 0, 0)
	for _, f := range []impl.Fol{folOf(plainDb(2), -1, 0), folOf(plainDb(2), 401, 7), folOf(plainDb(2), 3, -1), folOf(wrongDbs()[0], 3, 0), folOf(wrongDbs()[2], 0, 0)} {
		sayFolTakenAll(t, "a wrong follower", f, []impl.Batch{first, wrong, second}, f, 1, 1, 1)
		sayFolTakenAll(t, "a wrong follower and none", f, nil, f)
	}
}

func TestP15FolTakeAllOfAllShortLists(t *testing.T) {
	some := []impl.Batch{setUpBatch(), batchOf(5, 3, putPart(1)), batchOf(6, 5, partOf(empty("b"), "k x", "k")), batchOf(5, 3, putPart(1), putPart(1)), batchOf(7, 7), batchOf(400, 6)}
	for _, f := range []impl.Fol{{}, folOf(plainDb(0), 3, 0), folOf(plainDb(0), 0, 0), folOf(plainDb(2), 5, 0), folOf(plainDb(0), 3, 2), folOf(plainDb(0), -3, 0)} {
		for _, order := range allLists([]string{"0", "1", "2", "3", "4", "5"}, 4) {
			var l []impl.Batch
			var codes []int
			want := f
			for _, w := range order {
				n, _ := strconv.Atoi(w)
				l = append(l, some[n])
				next, code := folTakenIn(want, some[n])
				if code == 0 || code == 30 {
					want = next
				}
				codes = append(codes, code)
			}
			sayFolTakenAll(t, "the batches "+strings.Join(order, " "), f, l, want, codes...)
		}
	}
}

// changingLog has ten commits; what its tables are changes in most of them.
func changingLog(t *testing.T) []impl.Rec {
	t.Helper()
	return logBy(t,
		"create t ( i int not ) ( x text ) key i", "insert t 1 'a'; insert t 2 null", "add t n int =4; insert t 3 'c' 5", "update t 1 to 1 'b' null; delete t 2",
		"name t x y; insert t 0 'z' 0", "create u ( s text not ) ( i int not ) key s i; insert u 'b' 1; insert u 'a' 2", "out t n; add t w bool not =true",
		"name u i k; update u 'b' 1 to 'c' 0; clear t", "drop u; insert t 9 null false", "create u ( k int not ) key k; insert u 5; drop t",
	)
}

// sayFollows takes the batches one after the other and asks that the follower
// shows the source behind each that it took, and that one that halts it changes
// nothing else; it tells what the follower was behind each, the halted one last.
func sayFollows(t *testing.T, what string, f impl.Fol, l []impl.Rec) []impl.Fol {
	t.Helper()
	out := []impl.Fol{f}
	for _, b := range impl.Decode(l, f.At) {
		next, code := impl.FolTake(f, b)
		out = append(out, next)
		if code == 30 && next.Halt > 0 && same(next, folOf(f.Db, f.At, next.Halt)) {
			return out
		}
		d, _ := impl.DbAt(l, b.Lsn)
		if code != 0 || next.At != b.Lsn || next.Halt != 0 || !impl.FolOk(next) || !impl.Shows(next.Db, d) {
			t.Fatalf("%s: %sis %d with\n%s%sof\n%sand should show\n%s", what, impl.BatchText(b), code, impl.FolText(next), impl.DbText(next.Db), impl.FolText(f), impl.DbText(d))
		}
		f = next
	}
	return out
}

func TestP2AFollowerWithOtherColumnsShowsTheSource(t *testing.T) {
	l := changingLog(t)
	for _, c := range []struct {
		store       string
		taken, halt int
	}{
		{"", 10, 0}, {"create t ( i int not ) ( x text ) key i", 10, 0}, {"create t ( x text ='no' ) ( i int not =3 ) key i", 10, 0}, {"create t ( n int =7 ) ( x text ) ( i int not ) key i", 10, 0}, {"create t ( w bool ) ( i int not ) ( x text ) key i", 10, 0},
		{"create t ( w bool not =false ) ( n int ) ( i int not ) ( q text ='v' ) ( x text ) key i", 10, 0}, {"create t ( q int not =1 ) ( i int not ) ( x text ) key i; create u ( q int ) ( i int not ) ( s text not ) key i s", 10, 0}, {"create z ( i int not ) key i", 10, 0},
		{"create u ( i int not ) ( r text not ='v' ) ( s text not ) key i s", 10, 0}, {"create t ( i int not ) ( x text ) ( a int ) ( b int ) ( c int ) ( d int ) ( e int ) key i", 10, 0},
		{"create t ( i int not ) ( x text ) ( a int ) ( b int ) ( c int ) ( d int ) ( e int ) ( f int ) key i", 2, 16}, {"create t ( n text ) ( i int not ) ( x text ) key i", 2, 15}, {"create t ( n int not =7 ) ( i int not ) ( x text ) key i", 3, 14}, {"create t ( n int not =7 ) ( i int not ) ( x int ) key i", 1, 14},
		{"create t ( y text ) ( i int not ) ( x text ) key i", 4, 15}, {"create t ( i int not ) ( x text not ='' ) key i", 1, 14}, {"create t ( i bool not ) ( x text ) key i", 1, 14}, {"create t ( i int not ) ( x int ) key i", 1, 14}, {"create t ( i int not ) key i", 0, 11}, {"create t ( i int not ) ( x text not ) key i x", 0, 12},
		{"create t ( i int not ) ( x text not ) key x", 0, 12}, {"create t ( i int not ) ( x text ) ( q int not ) key i", 0, 13}, {"create u ( k int not ) ( s text not ) key k s", 5, 11}, {"create u ( k int ) ( i int not ) ( s text not ) key i s", 7, 15}, {"create u ( i int not ) ( s text not ) key s", 5, 12},
		{"create u ( i int not ) ( s text not ) ( z bool not ) key i s", 5, 13}, {"create t ( w int ) ( i int not ) ( x text ) key i", 6, 15}, {"create a ( k int not ) key k; create b ( k int not ) key k; create c ( k int not ) key k; create d ( k int not ) key k; create e ( k int not ) key k; create f ( k int not ) key k", 0, 13},
		{"create a ( k int not ) key k; create b ( k int not ) key k; create c ( k int not ) key k; create d ( k int not ) key k; create e ( k int not ) key k", 5, 13},
	} {
		f, ok := impl.FolNew(madeBy(t, c.store))
		all := sayFollows(t, c.store, f, l)
		last := all[len(all)-1]
		if !ok || last.Halt != c.halt || last.At != append([]int{0}, impl.Commits(l)...)[c.taken] || len(all) != c.taken+1+min(c.halt, 1) {
			t.Errorf("%s took %d and is %s; not %d and halted by %d", c.store, len(all)-1, impl.FolText(last), c.taken, c.halt)
		}
	}
}

// sayAnyDelivery gives the batches in that order, by their number, and asks
// that each is taken once and in order, whatever comes between.
func sayAnyDelivery(t *testing.T, behind []impl.Fol, all []impl.Batch, order []int) {
	t.Helper()
	var l []impl.Batch
	var codes []int
	n := 0
	for _, i := range order {
		l = append(l, all[i])
		code := 21
		switch {
		case behind[n].Halt != 0:
			code = 20
		case i == n:
			n++
			code = 30 * min(behind[n].Halt, 1)
		case i > n:
			code = 22
		}
		codes = append(codes, code)
	}
	sayFolTakenAll(t, "the order "+showOf(order), behind[0], l, behind[n], codes...)
}

func TestP2BatchesAreTakenOnceAndInOrder(t *testing.T) {
	l := changingLog(t)
	all := impl.Decode(l, 0)
	for _, store := range []string{"", "create t ( n int =7 ) ( x text ) ( i int not ) key i", "create t ( y text ) ( i int not ) ( x text ) key i", "create t ( i int not ) ( x text not ='' ) key i", "create t ( i int not ) key i"} {
		f, _ := impl.FolNew(madeBy(t, store))
		behind := sayFollows(t, store, f, l)
		for _, words := range append(ordersOf([]string{"0", "1", "2", "3", "4"}), allLists([]string{"0", "1", "2"}, 5)...) {
			var order []int
			for _, w := range words {
				n, _ := strconv.Atoi(w)
				order = append(order, n)
			}
			sayAnyDelivery(t, behind, all, order)
			sayAnyDelivery(t, behind, all, slices.Repeat(order, 5))
		}
		r := rand.New(rand.NewSource(12))
		for range 100 {
			sayAnyDelivery(t, behind, all, append(r.Perm(10), slices.Concat(r.Perm(10), r.Perm(10), r.Perm(10))...))
		}
	}
}

func TestP2FollowersOfManyLogs(t *testing.T) {
	taken := 0
	for _, l := range append(rightLogs(), sideBySide(), committed(1, stmtsOfParts(drifting())...), append(manyCommits(132), committed(900, put(1), put(2))...)) {
		for _, d := range []impl.Db{{}, dbOf(catOf(tableOf("b", "x k z", "k")), nil), dbOf(catOf(tableOf("b", "n x k", "k")), nil), plainDb(0, 0)} {
			f, _ := impl.FolNew(d)
			all := sayFollows(t, "a log", f, l)
			taken += len(all) - 1
			if last := all[len(all)-1]; len(d.Cat.Tables) == 0 && (last.Halt != 0 || last.At != impl.Last(l)) {
				t.Errorf("the empty one is %s behind %+v", impl.FolText(last), l)
			}
		}
	}
	if taken < 500 {
		t.Errorf("only %d batches were taken", taken)
	}
	long := committed(1, append(stmtsIn(setUp(1), 1), stmtsOfParts(manyParts(impl.MaxParts-1))...)...)
	sayFollows(t, "the most parts", impl.Fol{}, long)
	b, _ := impl.BatchAt(committed(1, append(stmtsIn(setUp(1), 1), stmtsOfParts(manyParts(impl.MaxParts))...)...), impl.MaxParts+3)
	sayFolTaken(t, "one more", impl.Fol{}, b, impl.Fol{}, 1)
}

// someVal is a value of that type, or null where it may be.
func someVal(r *rand.Rand, ty int, not bool) impl.Val {
	if !not && r.Intn(4) == 0 {
		return impl.Val{}
	}
	switch ty {
	case impl.TyBool:
		return boolVal(r.Intn(2))
	case impl.TyInt:
		return intVal(r.Intn(5) - 1)
	}
	return textVal(string("abc"[r.Intn(3)]))
}

// someCol has mostly the type of its name.
func someCol(r *rand.Rand, name string) impl.Col {
	c := impl.Col{Name: name, Ty: int(name[0])%3 + 1, Not: r.Intn(3) == 0, Has: r.Intn(2) == 0}
	if r.Intn(12) == 0 {
		c.Ty = c.Ty%3 + 1
	}
	if c.Has {
		c.Def = someVal(r, c.Ty, c.Not)
	}
	return c
}

// someTable has mostly k, and then others, for its key.
func someTable(r *rand.Rand, name string, most int) impl.Table {
	x := impl.Table{Name: name}
	names := []string{"k", "a", "b", "c", "d", "e", "f"}[:most]
	r.Shuffle(len(names), func(i, j int) { names[i], names[j] = names[j], names[i] })
	for _, n := range names {
		if c := someCol(r, n); n == "k" {
			x.Cols, x.Keys = append(x.Cols, impl.Col{Name: n, Ty: impl.TyInt, Not: true}), append(x.Keys, n)
		} else if r.Intn(30) == 0 && len(x.Keys) < 2 {
			c.Not, c.Has, c.Def = true, false, impl.Val{}
			x.Cols, x.Keys = append(x.Cols, c), append(x.Keys, n)
		} else {
			x.Cols = append(x.Cols, c)
		}
	}
	return x
}

func someRow(r *rand.Rand, x impl.Table) impl.Row {
	var l []impl.Val
	for _, c := range x.Cols {
		l = append(l, someVal(r, c.Ty, c.Not))
	}
	return rowOf(l...)
}

// someChange is one of a table that is there, or would be if it isn't.
func someChange(r *rand.Rand, x impl.Table) impl.Ddl {
	names := []string{"a", "b", "c", "d", "e", "f", "g", "h", "k"}
	one, other := x.Cols[r.Intn(len(x.Cols))].Name, names[r.Intn(len(names))]
	switch r.Intn(8) {
	case 0:
		return drop(x.Name)
	case 1, 2:
		return outOf(x.Name, one)
	case 3, 4:
		return rename(x.Name, one, other)
	}
	c := someCol(r, other)
	c.Not = c.Not && c.Has
	return add(x.Name, c)
}

// someStmt is mostly one that goes on the store.
func someStmt(r *rand.Rand, d impl.Db) impl.Stmt {
	name := []string{"t", "u"}[r.Intn(2)]
	x, ok := impl.TableOf(d.Cat, name)
	if !ok {
		return change(create(someTable(r, name, 1+r.Intn(4))))
	}
	rows := impl.RowsOf(d, name)
	if len(rows) == 0 || r.Intn(3) == 0 {
		return insert(name, someRow(r, x))
	}
	key := impl.KeyOf(x, rows[r.Intn(len(rows))])
	switch r.Intn(12) {
	case 0:
		return empty(name)
	case 1, 2:
		return remove(name, key)
	case 3, 4, 5:
		return change(someChange(r, x))
	}
	return update(name, key, someRow(r, x))
}

// someLog has up to n commits of statements that go.
func someLog(r *rand.Rand, n int) []impl.Rec {
	var l []impl.Rec
	var d impl.Db
	for xid := 1; xid <= n; xid++ {
		var some []impl.Stmt
		for range 1 + r.Intn(4) {
			s := someStmt(r, d)
			if next, code := impl.Exec(d, s); code == 0 {
				d, some = next, append(some, s)
			}
		}
		l = append(l, committed(xid, some...)...)
	}
	return l
}

func someFollower(r *rand.Rand) impl.Fol {
	var d impl.Db
	for _, name := range []string{"t", "u"} {
		if r.Intn(5) > 0 {
			d.Cat.Tables = append(d.Cat.Tables, someTable(r, name, 3+r.Intn(5)))
			d.Data = append(d.Data, impl.Rows{})
		}
	}
	f, _ := impl.FolNew(d)
	return f
}

func TestP2SomeFollowersOfSomeLogs(t *testing.T) {
	r := rand.New(rand.NewSource(11))
	taken, whole := 0, 0
	halts, kinds := map[int]int{}, map[int]int{}
	for range 3000 {
		l := someLog(r, 8)
		f := someFollower(r)
		all := sayFollows(t, "some log", f, l)
		batches := impl.Decode(l, 0)
		for n := range len(all) - 1 {
			sayFolTaken(t, "some batch", all[n], batches[n], all[n+1], 30*min(all[n+1].Halt, 1))
			want, code := folTakenIn(all[n], batches[n])
			sayFolTaken(t, "some batch", all[n], batches[n], want, code)
			for _, s := range impl.StmtsIn(batches[n]) {
				kinds[s.Kind*10+s.Ddl.Kind] += 1 - min(all[n+1].Halt, 1)
			}
		}
		last := all[len(all)-1]
		taken += len(all) - 1 - min(last.Halt, 1)
		if halts[last.Halt]++; last.Halt == 0 {
			whole++
		}
	}
	if taken < 5000 || whole < 400 {
		t.Errorf("only %d batches were taken, and only %d logs as a whole", taken, whole)
	}
	for _, code := range []int{11, 12, 13, 14, 15} {
		if halts[code] < 10 {
			t.Errorf("%d halted %d followers", code, halts[code])
		}
	}
	for _, kind := range []int{10, 20, 30, 40, 51, 52, 53, 54, 55} {
		if kinds[kind] < 100 {
			t.Errorf("only %d statements of the kind %d were taken", kinds[kind], kind)
		}
	}
}

func TestP15ShowsOfSomeStores(t *testing.T) {
	d := nearAndFar(t)
	for _, c := range []struct {
		store string
		want  bool
	}{
		{"", true}, {"create a ( k int not ) key k; insert a 7", true}, {"create a ( z int ) ( k int not =4 ) key k; insert a 1 7", true}, {"create e ( n int not ) ( i int not ) key n", true}, {"create a ( k int not ) ( q int ) key k; insert a 7 null", true},
		{"create t ( i int not ) ( s text not ) ( x text ) key i s; insert t 5 'a' 'x'; insert t 5 'b' null; insert t 6 'b' 'z'", true}, {"create t ( s text not ) ( i int not ) key s i", false}, {"create e ( i int not ) key i; create a ( k int not ) key k; insert a 7", true},
		{"create a ( k int not ) key k", false}, {"create a ( k int not ) key k; insert a 8", false}, {"create a ( k int not ) key k; insert a 7; insert a 8", false}, {"create a ( k int not ) ( z int ) key k; insert a 7 2", false}, {"create a ( k int not ) ( z int ) key k; insert a 7 null", false},
		{"create z ( k int not ) key k", false}, {"create a ( k int not ) key k; insert a 7; create z ( k int not ) key k", false}, {"create b ( k int not ) key k", false}, {"create e ( q int not ) key q", false}, {"create e ( i int not ) ( q int not ) key i q", false}, {"create e ( i int not ) ( q int not ) key i", false},
		{"create e ( i int not ) ( q int =4 ) key i", false}, {"create a ( k int not ) ( q int ) key k; insert a 7 1", false}, {"create a ( k text not ) key k; insert a '7'", false}, {"create a ( k int not ) ( z text ) key k; insert a 7 '1'", false}, {"create e ( i text not ) key i", true},
		{"create t ( i int not ) ( s text not ) ( x text ) key i s; insert t 5 'a' 'x'; insert t 5 'b' ''; insert t 6 'b' 'z'", false}, {"create t ( i int not ) ( x text ) key i; insert t 5 'x'; insert t 6 'z'", false},
	} {
		if got := impl.Shows(d, madeBy(t, c.store)); got != c.want {
			t.Errorf("Shows of %s is %v", c.store, got)
		}
	}
	if impl.Shows(impl.Db{}, d) || !impl.Shows(impl.Db{}, impl.Db{}) || !impl.Shows(d, impl.Db{Cat: catOf(), Data: []impl.Rows{}}) || !impl.Shows(d, d) {
		t.Error("Shows of and with no tables")
	}
}

func TestP15ShowsOfManyStores(t *testing.T) {
	shown, not := 0, 0
	for _, f := range shownStores(t) {
		for _, d := range shownStores(t) {
			p, ok := projectIn(f, d)
			want := ok && same(p, d)
			if got := impl.Shows(f, d); got != want {
				t.Errorf("Shows of\n%sand\n%sis %v", impl.DbText(f), impl.DbText(d), got)
			}
			if want {
				shown++
			} else {
				not++
			}
		}
	}
	if shown < 200 || not < 500 {
		t.Errorf("%d are shown, %d aren't", shown, not)
	}
	for _, wrong := range wrongDbs() {
		for _, d := range []impl.Db{{}, plainDb(0), plainDb(1, 2, 3), dbOf(catOf(plainTable()), evenRows(2)), wrong} {
			if impl.Shows(wrong, d) || impl.Shows(d, wrong) {
				t.Errorf("Shows of %+v and %+v is true", wrong, d)
			}
		}
	}
}

func TestP15FolText(t *testing.T) {
	for _, c := range []struct {
		f    impl.Fol
		want string
	}{
		{impl.Fol{}, "at 0 halt 0\n"}, {folOf(impl.Db{}, 400, 0), "at 400 halt 0\n"}, {folOf(impl.Db{}, 7, 14), "at 7 halt 14\n"}, {folOf(impl.Db{}, 12, 1099511627775), "at 12 halt 1099511627775\n"},
		{folOf(madeBy(t, "create t ( a text not ) ( id int not ) key id; insert t 'x%20y' -3; insert t '' 0"), 4, 14), "at 4 halt 14\ncreate t ( a text not ) ( id int not ) key id\ninsert t 'x%20y' -3\ninsert t '' 0\n"},
		{folOf(impl.Db{}, 12, 1099511627776), ""}, {folOf(impl.Db{}, 12, math.MaxInt), ""}, {folOf(impl.Db{}, 12, -1), ""}, {folOf(impl.Db{}, 12, math.MinInt), ""}, {folOf(impl.Db{}, -1, 0), ""}, {folOf(impl.Db{}, 401, 0), ""}, {folOf(impl.Db{}, math.MaxInt, math.MaxInt), ""},
	} {
		if got := impl.FolText(c.f); got != c.want {
			t.Errorf("FolText(%+v) is %q, not %q", c.f, got, c.want)
		}
	}
	for i, d := range rightDbs() {
		want := "at " + strconv.Itoa(i) + " halt " + strconv.Itoa(i*i) + "\n" + impl.DbText(d)
		if got := impl.FolText(folOf(d, i, i*i)); got != want {
			t.Errorf("FolText is %q, not %q", got, want)
		}
	}
	for _, d := range wrongDbs() {
		if got := impl.FolText(folOf(d, 1, 0)) + impl.FolText(folOf(d, 0, 14)); got != "" {
			t.Errorf("FolText of a wrong store is %q", got)
		}
	}
}

// takenParts go on nearAndFar, in each way in which a part can go.
func takenParts(t *testing.T) []impl.Part {
	t.Helper()
	var l []impl.Part
	for _, s := range []string{
		"insert t 5 'c' 'q'", "update t 5 'a' to 5 'a' 'q'", "update t 5 'a' to 9 'z' 'q'", "delete t 5 'a'", "clear t", "create e ( i int not ) ( n int not ) key i", "create z ( k int not ) ( x text ) key k", "drop t", "drop z",
		"out t none", "out t d", "name t none x", "name t x nn", "name t s nn", "add t y int =5", "add t nn text not ='v'", "add e n int",
	} {
		l = append(l, partOf(stmtOf(t, s), "i s x", "i s"))
	}
	return l
}

func TestP15TakenStoresAreNewMemory(t *testing.T) {
	for i := range takenParts(t) {
		d, p := nearAndFar(t), takenParts(t)[i]
		what := "TakePart of " + impl.StmtText(p.Stmt)
		args := append(dbLists("d", d), partsLists("p", []impl.Part{p})...)
		var one, two impl.Db
		code := 0
		sayUnchanged(t, what, args, func() {
			one, code = impl.TakePart(d, p)
			two, _ = impl.TakePart(d, p)
		})
		if code != 0 || !same(one, two) {
			t.Errorf("%s is %+v, %d, and then %+v", what, one, code, two)
		}
		sayApart(t, what, slices.Concat(args, dbLists("one", one), dbLists("two", two)))
	}
}

func TestP15TakenStoresOfSharedListsAreNewMemory(t *testing.T) {
	row := keyOf(intVal(1), textVal("v"))
	names := roomy([]string{"k", "x"})
	cols := roomy(plainTable().Cols)
	d := plainDb(2, 2)
	d.Data[1] = d.Data[0]
	for _, p := range []impl.Part{
		{Stmt: insert("b", impl.Row{Vals: row}), Cols: names, Keys: names[:1]}, {Stmt: update("d", d.Data[0].Rows[0].Vals[:1], impl.Row{Vals: row}), Cols: names, Keys: names[:1]}, {Stmt: change(drop("none")), Cols: names, Keys: names},
		{Stmt: change(impl.Ddl{Kind: impl.DdlCreate, Table: "z", Cols: cols, Keys: names[:1]}), Cols: names, Keys: names}, {Stmt: change(impl.Ddl{Kind: impl.DdlAdd, Table: "b", Cols: cols[1:]}), Cols: names, Keys: names},
	} {
		args := append(dbLists("d", d), partsLists("p", []impl.Part{p})...)
		want, code := takenIn(d, p)
		sayTaken(t, d, p, want, code)
		got, c := impl.TakePart(d, p)
		b := batchOf(9, 3, p, p, p)
		f, _ := impl.FolTake(folOf(d, 3, 0), b)
		if c != 0 || impl.FolText(f) == "" {
			t.Errorf("TakePart of %+v tells %d, FolTake %+v", p, c, f)
		}
		sayUnchanged(t, "shared lists", args, func() { sayNoneShared(t, "shared lists", nil, append(dbLists("got", got), dbLists("f", f.Db)...)) })
	}
}

func TestP15FollowersAreNewMemory(t *testing.T) {
	for what, parts := range map[string][]impl.Part{"none": nil, "all": takenParts(t)[:3:3], "one that halts": append(takenParts(t)[:2:2], partOf(empty("none"), "", "")), "one that halts at once": {partOf(empty("none"), "", ""), takenParts(t)[0]}} {
		f, b := folOf(nearAndFar(t), 3, 0), batchOf(7, 3, parts...)
		args := append(dbLists("f", f.Db), batchesLists("b", []impl.Batch{b})...)
		var one, two impl.Fol
		sayUnchanged(t, "FolTake of "+what, args, func() {
			one, _ = impl.FolTake(f, b)
			two, _ = impl.FolTake(f, b)
		})
		if !same(one, two) || len(one.Db.Cat.Tables) == 0 {
			t.Errorf("FolTake of %s is %+v and then %+v", what, one, two)
		}
		sayApart(t, "FolTake of "+what, slices.Concat(args, dbLists("one", one.Db), dbLists("two", two.Db)))
	}
	for i := range rightDbs() {
		d := rightDbs()[i]
		args := dbLists("d", d)
		var f impl.Fol
		sayUnchanged(t, "FolNew", args, func() { f, _ = impl.FolNew(d) })
		sayNoneShared(t, "FolNew", args, dbLists("f", f.Db))
	}
}

func TestP15FollowersOfManyBatchesAreNewMemory(t *testing.T) {
	lists := func() [][]impl.Batch {
		return [][]impl.Batch{
			nil, {batchOf(3, 0)}, {batchOf(9, 8), batchOf(9, 7)}, {{}}, {batchOf(7, 3)}, {batchOf(7, 3, takenParts(t)[0]), batchOf(7, 3), batchOf(9, 7, takenParts(t)[5])},
			{batchOf(7, 3, takenParts(t)[0]), batchOf(9, 7, partOf(empty("none"), "", "")), batchOf(9, 7)},
		}
	}
	for i := range lists() {
		for _, place := range []int{3, -1} {
			f, l := folOf(nearAndFar(t), place, 0), roomy(lists()[i])
			args := append(dbLists("f", f.Db), batchesLists("l", l)...)
			var one, two impl.Fol
			var codes, again []int
			sayUnchanged(t, "FolTakeAll", args, func() {
				one, codes = impl.FolTakeAll(f, l)
				two, again = impl.FolTakeAll(f, l)
			})
			if !same(one, two) || !slices.Equal(codes, again) || len(codes) != len(l) || len(one.Db.Cat.Tables) == 0 {
				t.Errorf("FolTakeAll is %+v, %v and then %+v, %v", one, codes, two, again)
			}
			sayApart(t, "FolTakeAll", slices.Concat(args, dbLists("one", one.Db), dbLists("two", two.Db), []list{listOf("codes", codes, -7, strconv.Itoa), listOf("again", again, -7, strconv.Itoa)}))
		}
	}
	d := plainDb(2)
	shared := dbOf(catOf(d.Cat.Tables[0], d.Cat.Tables[0]), d.Data[0].Rows, d.Data[0].Rows)
	args := dbLists("f", shared)
	got, _ := impl.FolTakeAll(folOf(shared, 3, 0), nil)
	sayNoneShared(t, "a wrong follower", args, dbLists("got", got.Db))
}

func TestP15ArgumentsOfFollowersStay(t *testing.T) {
	stores := append(wrongDbs()[:60], metStores(t)...)
	for i, d := range stores {
		f, other := folOf(d, 3, 0), nearAndFar(t)
		l := []impl.Batch{batchOf(5, 3, takenParts(t)...), batchOf(5, 3, partOf(change(drop("b")), "", ""), putPart(1)), batchOf(5, 3, putPart(1)), {}}
		args := slices.Concat(dbLists("d", d), dbLists("other", other), batchesLists("l", l))
		sayUnchanged(t, "store "+strconv.Itoa(i), args, func() {
			impl.FolOk(f)
			impl.FolNew(d)
			impl.FolText(f)
			impl.Shows(d, other)
			impl.Shows(other, d)
			impl.FolTakeAll(f, l)
			for _, b := range l {
				impl.FolTake(f, b)
				for _, p := range b.Parts {
					impl.TakePart(d, p)
				}
			}
		})
	}
}
