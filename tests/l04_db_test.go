package tests

import (
	"math"
	"slices"
	"strconv"
	"testing"

	"loop.example/g00462/impl"
)

func dbOf(c impl.Cat, rows ...[]impl.Row) impl.Db {
	var l []impl.Rows
	for _, r := range rows {
		l = append(l, impl.Rows{Rows: r})
	}
	return impl.Db{Cat: c, Data: roomy(l)}
}

// plainDb has tables b, d, f, .. with the columns of plainTable, each with so
// many of evenRows.
func plainDb(counts ...int) impl.Db {
	var tables []impl.Table
	var rows [][]impl.Row
	for i, n := range counts {
		tables = append(tables, tableOf(string(rune('b'+2*i)), "k x", "k"))
		rows = append(rows, evenRows(n))
	}
	return dbOf(catOf(tables...), rows...)
}

// with is a copy of the store with other rows in one table.
func with(d impl.Db, at int, rows []impl.Row) impl.Db {
	out := impl.Db{Cat: d.Cat, Data: roomy(d.Data)}
	out.Data[at] = impl.Rows{Rows: rows}
	return out
}

func insert(table string, r impl.Row) impl.Stmt {
	return impl.Stmt{Kind: impl.StInsert, Table: table, Row: r}
}

func update(table string, key []impl.Val, r impl.Row) impl.Stmt {
	return impl.Stmt{Kind: impl.StUpdate, Table: table, Key: key, Row: r}
}

func remove(table string, key []impl.Val) impl.Stmt {
	return impl.Stmt{Kind: impl.StDelete, Table: table, Key: key}
}

func empty(table string) impl.Stmt { return impl.Stmt{Kind: impl.StClear, Table: table} }

func change(d impl.Ddl) impl.Stmt { return impl.Stmt{Kind: impl.StDdl, Table: d.Table, Ddl: d} }

func intKey(n int) []impl.Val { return keyOf(intVal(n)) }

func valsOf(v impl.Val, n int) []impl.Val { return keyOf(slices.Repeat([]impl.Val{v}, n)...) }

// rightDbs are different from one another.
func rightDbs() []impl.Db {
	full := slices.Repeat([]int{impl.MaxRows}, impl.MaxTables)
	l := []impl.Db{
		{}, plainDb(0), plainDb(1), plainDb(impl.MaxRows), plainDb(0, 0), plainDb(0, 3), plainDb(3, 0), plainDb(3, 3), plainDb(5, 0, 3),
		plainDb(1, 2, 3, 4, 5, 6), plainDb(full...), dbOf(catOf(mixedTable()), mixedRows()), dbOf(catOf(mixedTable()), nil),
		dbOf(catOf(plainTable()), evenRows(4)), dbOf(catOf(tableOf("t", namesOf("k", impl.MaxCols), "k")), nil), dbOf(catOf(mixedTable(), plainTable()), mixedRows(), evenRows(2)),
	}
	for _, c := range []impl.Cat{smallCat(1), smallCat(impl.MaxTables - 1), smallCat(impl.MaxTables)} {
		rows := make([][]impl.Row, len(c.Tables))
		l = append(l, dbOf(c, rows...))
		for i, t := range c.Tables {
			rows[i] = []impl.Row{fillOf(t)}
		}
		l = append(l, dbOf(c, rows...))
	}
	return l
}

func wrongDbs() []impl.Db {
	l := []impl.Db{
		{Data: []impl.Rows{{}}}, dbOf(impl.Cat{}, evenRows(1)), dbOf(catOf(plainTable())), dbOf(catOf(plainTable()), nil, nil),
		dbOf(catOf(plainTable()), evenRows(1), evenRows(1)), dbOf(plainDb(0, 0).Cat, evenRows(1)), dbOf(plainDb(0, 0).Cat, nil, nil, nil),
		dbOf(catOf(mixedTable(), plainTable()), evenRows(2), mixedRows()),
	}
	for i, c := range wrongCats() {
		var none, one [][]impl.Row
		for _, t := range c.Tables {
			none, one = append(none, nil), append(one, []impl.Row{fillOf(t)})
		}
		l = append(l, [][]impl.Db{{dbOf(c, none...)}, {dbOf(c, none...), dbOf(c, one...)}}[i%2]...)
	}
	for i, rows := range wrongPlainLists() {
		l = append(l, with(plainDb(1, 2, 3), i%3, rows), with(plainDb(0), 0, rows))
	}
	return l
}

// rightStmts are different from one another.
func rightStmts() []impl.Stmt {
	var l []impl.Stmt
	lists := [][]impl.Val{
		intKey(0), intKey(1), intKey(2), intKey(-1), keyOf(impl.Val{}), keyOf(boolVal(1)), keyOf(textVal("a")), plainRow(0).Vals,
		plainRow(1).Vals, plainRow(4).Vals, rowOf(intVal(4), impl.Val{}).Vals, mixedRow("a", 4).Vals, mixedKey("a", 3),
		valsOf(impl.Val{}, impl.MaxCols), valsOf(intVal(impl.MaxNum), impl.MaxCols), valsOf(textVal(""), impl.MaxCols-1),
	}
	for _, table := range []string{"a", "b", "d", "l", "mix", "t", "z", "abcdefgh"} {
		l = append(l, empty(table))
		for _, vals := range lists {
			l = append(l, insert(table, rowOf(vals...)), remove(table, vals))
			for _, key := range lists {
				l = append(l, update(table, key, rowOf(vals...)))
			}
		}
	}
	for _, d := range rightDdls() {
		l = append(l, change(d))
	}
	return l
}

func wrongStmts() []impl.Stmt {
	key, row := intKey(2), plainRow(2)
	l := []impl.Stmt{
		{}, {Table: "b"}, insert("b", impl.Row{}), update("b", nil, row), update("b", key, impl.Row{}), update("b", nil, impl.Row{}),
		remove("b", nil), change(impl.Ddl{}), {Kind: impl.StDdl, Table: "b"}, {Kind: impl.StDdl, Ddl: drop("b")},
	}
	for _, kind := range []int{0, -1, 6, 7, math.MaxInt, math.MinInt} {
		for _, s := range []impl.Stmt{insert("b", row), update("b", key, row), remove("b", key), empty("b"), change(drop("b"))} {
			s.Kind = kind
			l = append(l, s)
		}
	}
	for _, w := range wrongWords() {
		l = append(l, insert(w, row), update(w, key, row), remove(w, key), empty(w), change(drop(w)))
	}
	for _, n := range []int{impl.MaxCols + 1, impl.MaxCols + 2, 300} {
		many := valsOf(intVal(2), n)
		l = append(l, insert("b", rowOf(many...)), update("b", many, row), update("b", key, rowOf(many...)), remove("b", many))
	}
	for _, d := range wrongDdls() {
		l = append(l, change(d))
	}
	return append(append(l, stmtsWithWrongVals()...), stmtsWithMore()...)
}

// stmtsWithWrongVals are right but for one value, at the first or the last place.
func stmtsWithWrongVals() []impl.Stmt {
	var l []impl.Stmt
	key, row := intKey(2), plainRow(2)
	for _, v := range wrongVals() {
		for _, n := range []int{1, 2, impl.MaxCols} {
			first, last := valsOf(intVal(2), n), valsOf(intVal(2), n)
			first[0], last[n-1] = v, v
			for _, vals := range [][]impl.Val{first, last} {
				l = append(l, insert("b", rowOf(vals...)), update("b", vals, row), update("b", key, rowOf(vals...)), remove("b", vals))
			}
		}
	}
	return l
}

// stmtsWithMore are right but for one field, which should be nothing or is of
// another table.
func stmtsWithMore() []impl.Stmt {
	var l []impl.Stmt
	key, row := intKey(2), plainRow(2)
	for _, s := range []impl.Stmt{insert("b", row), remove("b", key), empty("b"), change(drop("b")), change(create(tableOf("b", "k", "k")))} {
		for _, vals := range [][]impl.Val{key, {{}}, {{Ty: 9}}} {
			more := s
			more.Key = vals
			if s.Kind != impl.StDelete {
				l = append(l, more)
			}
			more = s
			more.Row = impl.Row{Vals: vals}
			if s.Kind != impl.StInsert {
				l = append(l, more)
			}
		}
	}
	ddls := []impl.Ddl{
		drop("b"), create(tableOf("b", "k", "k")), {Kind: impl.DdlDrop}, {Kind: -1}, {Table: "b"}, {Cols: []impl.Col{{}}},
		{Keys: []string{""}}, {Name: "x"}, {To: "x"},
	}
	for _, s := range []impl.Stmt{insert("b", row), update("b", key, row), remove("b", key), empty("b")} {
		for _, d := range ddls {
			s.Ddl = d
			l = append(l, s)
		}
	}
	for _, table := range []string{"", "a", "bb", "d", "B"} {
		for _, d := range []impl.Ddl{drop("b"), create(tableOf("b", "k", "k")), add("b", freeCol("n")), outOf("b", "x"), rename("b", "x", "y")} {
			l = append(l, impl.Stmt{Kind: impl.StDdl, Table: table, Ddl: d})
		}
	}
	return l
}

func TestP15ChapterFiveConstants(t *testing.T) {
	kinds := [5]int{impl.StInsert, impl.StUpdate, impl.StDelete, impl.StClear, impl.StDdl}
	if kinds != [5]int{1, 2, 3, 4, 5} {
		t.Errorf("kinds %v", kinds)
	}
}

func TestP15DbOk(t *testing.T) {
	for _, d := range rightDbs() {
		if !impl.DbOk(d) {
			t.Errorf("DbOk(%+v) is false", d)
		}
	}
	for _, d := range wrongDbs() {
		if impl.DbOk(d) {
			t.Errorf("DbOk(%+v) is true", d)
		}
	}
	none := impl.Db{Cat: catOf(plainTable()), Data: []impl.Rows{{Rows: []impl.Row{}}}}
	if !impl.DbOk(none) || !impl.DbOk(impl.Db{Cat: catOf(), Data: []impl.Rows{}}) {
		t.Error("DbOk of empty lists is false")
	}
}

func TestP15RowsOf(t *testing.T) {
	for _, d := range rightDbs() {
		for i, x := range d.Cat.Tables {
			if got := impl.RowsOf(d, x.Name); !same(got, d.Data[i].Rows) {
				t.Errorf("RowsOf(%+v, %q) is %+v", d, x.Name, got)
			}
		}
		for _, name := range []string{"", "a", "bb", "e", "B", "zz", "b "} {
			if got := impl.RowsOf(d, name); len(got) != 0 {
				t.Errorf("RowsOf(%+v, %q) is %+v", d, name, got)
			}
		}
	}
	for _, d := range wrongDbs() {
		for _, x := range d.Cat.Tables {
			if got := impl.RowsOf(d, x.Name); len(got) != 0 {
				t.Errorf("RowsOf(%+v, %q) is %+v", d, x.Name, got)
			}
		}
	}
}

func TestP15StmtOk(t *testing.T) {
	for _, s := range rightStmts() {
		if !impl.StmtOk(s) {
			t.Errorf("StmtOk(%+v) is false", s)
		}
	}
	for _, s := range wrongStmts() {
		if impl.StmtOk(s) {
			t.Errorf("StmtOk(%+v) is true", s)
		}
	}
	for _, s := range []impl.Stmt{insert("b", plainRow(2)), remove("b", intKey(2)), empty("b"), change(drop("b"))} {
		if len(s.Key) == 0 {
			s.Key = []impl.Val{}
		}
		if len(s.Row.Vals) == 0 {
			s.Row.Vals = []impl.Val{}
		}
		s.Ddl.Cols, s.Ddl.Keys = []impl.Col{}, []string{}
		if !impl.StmtOk(s) {
			t.Errorf("StmtOk(%+v) with empty lists is false", s)
		}
	}
}

func TestP15StmtOkCountsValues(t *testing.T) {
	for n := range impl.MaxCols + 3 {
		vals, want := valsOf(intVal(2), n), n >= 1 && n <= impl.MaxCols
		for what, s := range map[string]impl.Stmt{
			"insert": insert("b", rowOf(vals...)), "update's key": update("b", vals, plainRow(2)),
			"update's row": update("b", intKey(2), rowOf(vals...)), "delete": remove("b", vals),
		} {
			if got := impl.StmtOk(s); got != want {
				t.Errorf("StmtOk of %s with %d values is %v", what, n, got)
			}
		}
	}
}

// sayDone asks that the statement goes and makes that store of the first.
func sayDone(t *testing.T, d impl.Db, s impl.Stmt, want impl.Db) {
	t.Helper()
	got, code := impl.Exec(d, s)
	if code != 0 || !same(got, want) || !impl.DbOk(got) {
		t.Errorf("Exec(%+v, %+v) is %+v, %d; not %+v", d, s, got, code, want)
	}
	got, code, at := impl.ExecAll(d, []impl.Stmt{s})
	if code != 0 || at != 0 || !same(got, want) {
		t.Errorf("ExecAll(%+v, one %+v) is %+v, %d, %d; not %+v", d, s, got, code, at, want)
	}
}

func TestP9StatementsChangeTheRowsOfTheirTableAlone(t *testing.T) {
	for n := 1; n <= impl.MaxTables; n++ {
		for i := range n {
			d := plainDb([]int{3, 4, 5, 6, 7, 8}[:n]...)
			x, rows := d.Cat.Tables[i].Name, d.Data[i].Rows
			for k := range len(rows) + 1 {
				r := plainRow(2*k - 1)
				sayDone(t, d, insert(x, r), with(d, i, slices.Insert(roomy(rows), k, r)))
			}
			for k := range rows {
				r := rowOf(intVal(2*k), impl.Val{})
				sayDone(t, d, update(x, intKey(2*k), r), with(d, i, slices.Replace(roomy(rows), k, k+1, r)))
				sayDone(t, d, update(x, intKey(2*k), plainRow(-9)), with(d, i, slices.Insert(without(rows, k), 0, plainRow(-9))))
				sayDone(t, d, update(x, intKey(2*k), plainRow(99)), with(d, i, append(without(rows, k), plainRow(99))))
				sayDone(t, d, remove(x, intKey(2*k)), with(d, i, without(rows, k)))
			}
			sayDone(t, d, empty(x), with(d, i, nil))
		}
	}
}

func TestP9StatementsAtTheEdges(t *testing.T) {
	full, last := plainDb(0, impl.MaxRows), plainDb(impl.MaxRows-1)
	sayDone(t, plainDb(0), insert("b", plainRow(0)), plainDb(1))
	sayDone(t, plainDb(1), remove("b", intKey(0)), plainDb(0))
	sayDone(t, plainDb(0), empty("b"), plainDb(0))
	sayDone(t, plainDb(0, 2), insert("b", plainRow(0)), plainDb(1, 2))
	sayDone(t, full, empty("d"), plainDb(0, 0))
	sayDone(t, full, empty("b"), full)
	sayDone(t, full, remove("d", intKey(2*impl.MaxRows-2)), plainDb(0, impl.MaxRows-1))
	sayDone(t, full, update("d", intKey(2), plainRow(2)), full)
	sayDone(t, last, insert("b", plainRow(2*impl.MaxRows-2)), plainDb(impl.MaxRows))
	mixed := dbOf(catOf(mixedTable()), mixedRows())
	for i, r := range mixedRows() {
		key := keyOf(r.Vals[1], r.Vals[3])
		sayDone(t, mixed, remove("mix", key), with(mixed, 0, without(mixedRows(), i)))
		sayDone(t, with(mixed, 0, without(mixedRows(), i)), insert("mix", r), mixed)
		other := rowOf(impl.Val{}, r.Vals[1], intVal(4), r.Vals[3])
		sayDone(t, mixed, update("mix", key, other), with(mixed, 0, slices.Replace(mixedRows(), i, i+1, other)))
	}
	wide := tableOf("w", "ka kb kc kd ke kf kg kh", "ka kb kc kd ke kf kg kh")
	one, two := valsOf(intVal(1), impl.MaxCols), valsOf(intVal(2), impl.MaxCols)
	sayDone(t, dbOf(catOf(wide), nil), insert("w", rowOf(one...)), dbOf(catOf(wide), []impl.Row{rowOf(one...)}))
	sayDone(t, dbOf(catOf(wide), []impl.Row{rowOf(one...)}), update("w", one, rowOf(two...)), dbOf(catOf(wide), []impl.Row{rowOf(two...)}))
	sayDone(t, dbOf(catOf(wide), []impl.Row{rowOf(one...)}), remove("w", one), dbOf(catOf(wide), nil))
	thin := tableOf("w", "k", "k")
	sayDone(t, dbOf(catOf(thin), nil), insert("w", rowOf(one[0])), dbOf(catOf(thin), []impl.Row{rowOf(one[0])}))
}

func TestP9CreatedTablesHaveNoRows(t *testing.T) {
	for n := range impl.MaxTables {
		for i := range n + 1 {
			d := plainDb([]int{3, 4, 5, 6, 7}[:n]...)
			x := tableOf(string(rune('a'+2*i)), "x k", "k")
			want := impl.Db{Cat: catOf(slices.Insert(roomy(d.Cat.Tables), i, x)...), Data: slices.Insert(roomy(d.Data), i, impl.Rows{})}
			sayDone(t, d, change(create(x)), want)
		}
	}
	for _, x := range rightTables() {
		sayDone(t, impl.Db{}, change(create(x)), dbOf(catOf(x), nil))
	}
}

func TestP9DroppedTablesGoWithTheirRows(t *testing.T) {
	for n := 1; n <= impl.MaxTables; n++ {
		for i := range n {
			d := plainDb([]int{3, 4, 5, 6, 7, 0}[:n]...)
			want := impl.Db{Cat: catOf(slices.Delete(roomy(d.Cat.Tables), i, i+1)...), Data: slices.Delete(roomy(d.Data), i, i+1)}
			sayDone(t, d, change(drop(d.Cat.Tables[i].Name)), want)
		}
	}
	got, code, at := impl.ExecAll(plainDb(2, 3, 4), []impl.Stmt{change(drop("d")), change(create(tableOf("d", "k x", "k")))})
	if code != 0 || at != 0 || !same(got, plainDb(2, 0, 4)) {
		t.Errorf("a table that is dropped and created is %+v, %d, %d", got, code, at)
	}
}

func TestP9ChangedTablesHaveTheirRowsChanged(t *testing.T) {
	for n := 1; n <= impl.MaxTables; n++ {
		for i := range n {
			d := plainDb([]int{3, 0, 5, 6, impl.MaxRows, 1}[:n]...)
			x := d.Cat.Tables[i].Name
			for _, c := range []struct {
				d    impl.Ddl
				to   impl.Table
				rest func(r impl.Row) impl.Row
			}{
				{add(x, freeCol("n")), tableOf(x, "k x n", "k"), func(r impl.Row) impl.Row { return rowOf(r.Vals[0], r.Vals[1], impl.Val{}) }},
				{add(x, defCol("n", true, intVal(7))), tableOf(x, "k x", "k"), func(r impl.Row) impl.Row { return rowOf(r.Vals[0], r.Vals[1], intVal(7)) }},
				{outOf(x, "x"), tableOf(x, "k", "k"), func(r impl.Row) impl.Row { return rowOf(r.Vals[0]) }},
				{rename(x, "x", "n"), tableOf(x, "k n", "k"), func(r impl.Row) impl.Row { return r }},
				{rename(x, "k", "kn"), tableOf(x, "kn x", "kn"), func(r impl.Row) impl.Row { return r }},
			} {
				var rows []impl.Row
				for _, r := range d.Data[i].Rows {
					rows = append(rows, c.rest(r))
				}
				if c.d.Kind == impl.DdlAdd && c.d.Cols[0].Has {
					c.to.Cols = append(c.to.Cols, c.d.Cols[0])
				}
				want := with(d, i, rows)
				want.Cat = catOf(slices.Replace(roomy(d.Cat.Tables), i, i+1, c.to)...)
				sayDone(t, d, change(c.d), want)
			}
		}
	}
}

func sayNotDone(t *testing.T, what string, d impl.Db, s impl.Stmt, want int) {
	t.Helper()
	got, code := impl.Exec(d, s)
	if code != want || !same(got, impl.Db{}) {
		t.Errorf("Exec of %s is %+v, %d; not %d", what, got, code, want)
	}
	got, code, at := impl.ExecAll(d, []impl.Stmt{s})
	if code != want || at != 0 || !same(got, impl.Db{}) {
		t.Errorf("ExecAll of %s alone is %+v, %d, %d; not %d, 0", what, got, code, at, want)
	}
}

func TestP15CodesOfExecForRows(t *testing.T) {
	d := plainDb(impl.MaxRows, 3)
	for _, c := range []struct {
		what string
		d    impl.Db
		s    impl.Stmt
		code int
	}{
		{"an insert without a table", impl.Db{}, insert("b", plainRow(1)), 4}, {"an insert ahead of the tables", d, insert("a", plainRow(1)), 4},
		{"a wrong row without a table", d, insert("c", rowOf(intVal(1))), 4}, {"an insert behind the tables", d, insert("dd", plainRow(1)), 4},
		{"a row too short", d, insert("d", rowOf(intVal(1))), 12}, {"a row too long", d, insert("d", rowOf(intVal(1), impl.Val{}, impl.Val{})), 12},
		{"a key of null", d, insert("d", rowOf(impl.Val{}, textVal("a"))), 12}, {"another type", d, insert("d", rowOf(intVal(1), intVal(1))), 12},
		{"a wrong row whose key is there", d, insert("d", rowOf(intVal(2), intVal(1))), 12},
		{"a wrong row among MaxRows", d, insert("b", rowOf(intVal(1))), 12}, {"a row of MaxCols", d, insert("d", rowOf(valsOf(intVal(1), impl.MaxCols)...)), 12},
		{"the first key", d, insert("d", plainRow(0)), 13}, {"the last key", d, insert("d", rowOf(intVal(4), impl.Val{})), 13},
		{"a key that is there among MaxRows", d, insert("b", plainRow(0)), 13}, {"one more than MaxRows", d, insert("b", plainRow(1)), 14},
		{"an update without a table", d, update("c", intKey(2), plainRow(2)), 4}, {"a wrong update without a table", d, update("c", intKey(9), rowOf(intVal(1))), 4},
		{"an update with a wrong row", d, update("d", intKey(2), rowOf(intVal(2))), 12},
		{"an update with a wrong row of no key", d, update("d", intKey(9), rowOf(intVal(9))), 12},
		{"an update with a wrong row to a key that is there", d, update("d", intKey(2), rowOf(intVal(4), boolVal(1))), 12},
		{"an update of no key", d, update("d", intKey(3), plainRow(3)), 15}, {"an update of no key to one", d, update("d", intKey(3), plainRow(4)), 15},
		{"an update of a null", d, update("d", keyOf(impl.Val{}), plainRow(4)), 15}, {"an update of a key too long", d, update("d", plainRow(2).Vals, plainRow(2)), 15},
		{"an update of MaxCols", d, update("d", valsOf(intVal(2), impl.MaxCols), plainRow(2)), 15}, {"an update of none", plainDb(0), update("b", intKey(2), plainRow(2)), 15},
		{"an update to a key that is there", d, update("d", intKey(2), plainRow(4)), 13}, {"an update of MaxRows", d, update("b", intKey(2), plainRow(4)), 13},
		{"a delete without a table", d, remove("c", intKey(2)), 4}, {"a delete of no key without a table", impl.Db{}, remove("b", keyOf(impl.Val{})), 4},
		{"a delete of no key", d, remove("d", intKey(3)), 15}, {"a delete of a text", d, remove("d", keyOf(textVal("2"))), 15},
		{"a delete of a key too long", d, remove("d", plainRow(2).Vals), 15}, {"a delete of none", plainDb(0), remove("b", intKey(0)), 15},
		{"a clear without a table", d, empty("c"), 4}, {"a clear of no tables", impl.Db{}, empty("b"), 4},
	} {
		sayNotDone(t, c.what, c.d, c.s, c.code)
	}
}

func TestP15CodesOfExecForTables(t *testing.T) {
	full, wide := plainDb(1, 2, 3, 4, 5, 6), dbOf(catOf(tableOf("t", namesOf("k", impl.MaxCols), "k")), nil)
	small := dbOf(catOf(tableOf("t", "ka x kb y kc", "ka kb")), []impl.Row{fillOf(tableOf("t", "ka x kb y kc", "ka kb"))})
	for _, c := range []struct {
		d    impl.Db
		s    impl.Ddl
		code int
	}{
		{small, create(tableOf("t", "k", "k")), 12}, {small, create(small.Cat.Tables[0]), 12}, {full, create(tableOf("b", "k", "k")), 12},
		{full, create(full.Cat.Tables[5]), 12}, {full, create(tableOf("a", "k", "k")), 13}, {full, create(tableOf("z", "k", "k")), 13},
		{impl.Db{}, drop("t"), 4}, {small, drop("s"), 4}, {small, drop("tt"), 4}, {full, drop("a"), 4}, {small, add("u", freeCol("n")), 4},
		{small, add("u", freeCol("x")), 4}, {small, outOf("u", "ka"), 4}, {small, outOf("u", "n"), 4}, {small, rename("u", "x", "n"), 4},
		{small, rename("u", "n", "x"), 4}, {impl.Db{}, rename("t", "x", "n"), 4},
		{small, add("t", freeCol("x")), 15}, {wide, add("t", freeCol("ch")), 15}, {wide, add("t", freeCol("n")), 16},
		{small, rename("t", "x", "y"), 15}, {small, rename("t", "n", "y"), 15}, {small, rename("t", "x", "x"), 15},
		{small, rename("t", "n", "m"), 17}, {small, outOf("t", "n"), 17}, {wide, outOf("t", "n"), 17},
		{small, outOf("t", "ka"), 18}, {small, outOf("t", "kb"), 18}, {wide, outOf("t", "k"), 18},
	} {
		sayNotDone(t, showOf(c.s), c.d, change(c.s), c.code)
	}
}

func TestP15WrongStoresOrStatementsGetCodeOne(t *testing.T) {
	stmts := []impl.Stmt{
		{}, insert("b", plainRow(1)), insert("none", plainRow(1)), insert("b", rowOf(intVal(1))), update("m", intKey(2), plainRow(2)),
		remove("b", intKey(0)), empty("b"), empty("none"), change(create(tableOf("zz", "k", "k"))), change(drop("b")), change(drop("none")),
	}
	for _, d := range wrongDbs() {
		for _, s := range stmts {
			sayNotDone(t, "a wrong store", d, s, 1)
		}
		if got, code, at := impl.ExecAll(d, nil); code != 1 || at != 0 || !same(got, impl.Db{}) {
			t.Errorf("ExecAll of a wrong store and no statements is %+v, %d, %d", got, code, at)
		}
		if got, code, at := impl.ExecAll(d, stmts); code != 1 || at != 0 || !same(got, impl.Db{}) {
			t.Errorf("ExecAll of a wrong store is %+v, %d, %d", got, code, at)
		}
	}
	for _, d := range []impl.Db{{}, plainDb(3), plainDb(3, 3), dbOf(catOf(plainTable()), evenRows(4))} {
		for _, s := range wrongStmts() {
			sayNotDone(t, "a wrong statement", d, s, 1)
		}
	}
}

func TestP9StatementsLeaveARightStoreOrNothing(t *testing.T) {
	seen := map[int]int{}
	for _, d := range rightDbs() {
		for _, s := range rightStmts() {
			got, code := impl.Exec(d, s)
			seen[code]++
			if code == 0 && !impl.DbOk(got) || code != 0 && !same(got, impl.Db{}) {
				t.Errorf("Exec(%+v, %+v) is %+v, %d", d, s, got, code)
			}
		}
	}
	for _, code := range []int{0, 4, 12, 13, 14, 15, 16, 17, 18} {
		if seen[code] == 0 {
			t.Errorf("code %d never came", code)
		}
		delete(seen, code)
	}
	if len(seen) != 0 {
		t.Errorf("codes that are none: %v", seen)
	}
}

// longList are statements that all go on a store without tables, what each
// needs ahead of it.
func longList() []impl.Stmt {
	return []impl.Stmt{
		change(create(tableOf("t", "k x", "k"))), insert("t", plainRow(4)), insert("t", plainRow(2)), change(create(tableOf("a", "k", "k"))),
		insert("a", rowOf(intVal(1))), update("t", intKey(4), plainRow(1)), change(add("t", defCol("n", true, intVal(9)))),
		insert("t", rowOf(intVal(9), impl.Val{}, intVal(8))), remove("t", intKey(2)), change(rename("t", "k", "kn")), change(outOf("t", "x")),
		change(create(tableOf("m", "k", "k"))), insert("m", rowOf(intVal(1))), change(drop("a")), insert("t", rowOf(intVal(3), intVal(3))),
		empty("m"), insert("m", rowOf(intVal(5))),
	}
}

func TestP15ExecAllIsExecOfOneAfterTheOther(t *testing.T) {
	var d impl.Db
	for n, s := range longList() {
		next, code := impl.Exec(d, s)
		all, allCode, at := impl.ExecAll(impl.Db{}, longList()[:n+1])
		if code != 0 || allCode != 0 || at != 0 || !same(all, next) {
			t.Fatalf("the first %d statements make %+v, %d, %d; one after the other %+v, %d", n+1, all, allCode, at, next, code)
		}
		d = next
	}
	x := tableOf("t", "kn", "kn")
	x.Cols = append(x.Cols, defCol("n", true, intVal(9)))
	rows := []impl.Row{rowOf(intVal(1), intVal(9)), rowOf(intVal(3), intVal(3)), rowOf(intVal(9), intVal(8))}
	if want := dbOf(catOf(tableOf("m", "k", "k"), x), []impl.Row{rowOf(intVal(5))}, rows); !same(d, want) {
		t.Errorf("all statements make %+v, not %+v", d, want)
	}
}

func TestP15ExecAllOfNoStatements(t *testing.T) {
	for _, d := range rightDbs() {
		for _, l := range [][]impl.Stmt{nil, {}} {
			if got, code, at := impl.ExecAll(d, l); code != 0 || at != 0 || !same(got, d) {
				t.Errorf("ExecAll(%+v, none) is %+v, %d, %d", d, got, code, at)
			}
		}
	}
}

func TestP9ExecAllTellsTheFirstThatDoesntGo(t *testing.T) {
	bad := []struct {
		s    impl.Stmt
		code int
	}{
		{impl.Stmt{}, 1}, {empty("none"), 4}, {change(drop("none")), 4}, {insert("t", rowOf(valsOf(intVal(1), impl.MaxCols)...)), 12},
		{remove("t", intKey(77)), 15}, {change(create(tableOf("t", "k", "k"))), 12}, {change(rename("t", "none", "nn")), 17},
	}
	for n := 1; n <= len(longList()); n++ {
		for i, b := range bad {
			l := append(longList()[:n], b.s)
			for _, more := range [][]impl.Stmt{nil, {bad[(i+1)%len(bad)].s}, longList()[n:]} {
				got, code, at := impl.ExecAll(impl.Db{}, append(roomy(l), more...))
				if code != b.code || at != n || !same(got, impl.Db{}) {
					t.Errorf("ExecAll with %+v at the place %d is %+v, %d, %d", b.s, n, got, code, at)
				}
			}
		}
	}
}

func TestP15SameDb(t *testing.T) {
	right := rightDbs()
	for i, a := range right {
		for j, b := range rightDbs() {
			if got := impl.SameDb(a, b); got != (i == j) {
				t.Errorf("SameDb(%+v, %+v) is %v", a, b, got)
			}
		}
	}
	for _, d := range wrongDbs() {
		if impl.SameDb(d, d) || impl.SameDb(d, right[1]) || impl.SameDb(right[1], d) || impl.SameDb(d, impl.Db{}) {
			t.Errorf("SameDb of %+v is true", d)
		}
	}
	if !impl.SameDb(impl.Db{}, impl.Db{Cat: catOf(), Data: []impl.Rows{}}) || !impl.SameDb(plainDb(0), with(plainDb(0), 0, []impl.Row{})) {
		t.Error("SameDb of nil and of empty lists is false")
	}
}

// changedDbs are plainDb(2, 3, 4) with one thing in its second table another one.
func changedDbs() []impl.Db {
	d := plainDb(2, 3, 4)
	l := []impl.Db{
		with(d, 1, evenRows(2)), with(d, 1, evenRows(4)), with(d, 1, nil), with(d, 1, []impl.Row{plainRow(0), plainRow(2), plainRow(5)}),
		with(d, 1, []impl.Row{plainRow(-1), plainRow(2), plainRow(4)}), with(d, 1, []impl.Row{plainRow(0), rowOf(intVal(2), impl.Val{}), plainRow(4)}),
	}
	not, has := tableOf("d", "k x", "k"), tableOf("d", "k x", "k")
	not.Cols[1].Not, has.Cols[1].Has = true, true
	tables := []impl.Table{tableOf("d", "k y", "k"), tableOf("d", "ka x", "ka"), not, has}
	for _, x := range tables {
		other := with(d, 1, d.Data[1].Rows)
		other.Cat.Tables = slices.Replace(roomy(d.Cat.Tables), 1, 2, x)
		l = append(l, other)
	}
	return l
}

func TestP15OneThingMakesStoresDiffer(t *testing.T) {
	d := plainDb(2, 3, 4)
	for _, other := range changedDbs() {
		if !impl.DbOk(other) || impl.SameDb(d, other) || impl.SameDb(other, d) {
			t.Errorf("SameDb of %+v is true", other)
		}
		if a, b := impl.Diff(d, other), impl.Diff(other, d); !same(a, []string{"d"}) || !same(b, []string{"d"}) {
			t.Errorf("Diff of %+v is %v, %v", other, a, b)
		}
	}
}

func TestP15Count(t *testing.T) {
	full := slices.Repeat([]int{impl.MaxRows}, impl.MaxTables)
	for _, c := range []struct {
		d impl.Db
		n int
	}{
		{impl.Db{}, 0}, {plainDb(0), 0}, {plainDb(1), 1}, {plainDb(0, 0, 0), 0}, {plainDb(3, 0, 4), 7}, {plainDb(0, 5), 5}, {plainDb(5, 0), 5},
		{plainDb(full...), impl.MaxRows * impl.MaxTables}, {dbOf(catOf(mixedTable()), mixedRows()), 6},
	} {
		if got := impl.Count(c.d); got != c.n {
			t.Errorf("Count(%+v) is %d", c.d, got)
		}
	}
	for _, d := range wrongDbs() {
		if got := impl.Count(d); got != -1 {
			t.Errorf("Count(%+v) is %d", d, got)
		}
	}
}

func TestP15Diff(t *testing.T) {
	some, other := plainDb(1, 2, 3, 4), plainDb(1, 5, 3, 6, 0)
	shifted := dbOf(catOf(tableOf("a", "k x", "k"), tableOf("d", "k x", "k"), tableOf("dd", "k x", "k"), tableOf("h", "k", "k")), nil, evenRows(2), evenRows(1), nil)
	for _, c := range []struct {
		a, b impl.Db
		want []string
	}{
		{impl.Db{}, impl.Db{}, nil}, {some, some, nil}, {impl.Db{}, plainDb(0), []string{"b"}}, {impl.Db{}, some, []string{"b", "d", "f", "h"}},
		{plainDb(0), plainDb(1), []string{"b"}}, {plainDb(1), plainDb(1, 0), []string{"d"}}, {some, other, []string{"d", "h", "j"}},
		{some, shifted, []string{"a", "b", "dd", "f", "h"}}, {shifted, plainDb(), []string{"a", "d", "dd", "h"}},
		{plainDb(0, 0, 0, 0, 0, 0), dbOf(smallCat(6), nil, nil, nil, nil, nil, nil), []string{"b", "d", "f", "h", "j", "l"}},
	} {
		if got := impl.Diff(c.a, c.b); !same(got, c.want) {
			t.Errorf("Diff(%+v, %+v) is %v", c.a, c.b, got)
		}
		if got := impl.Diff(c.b, c.a); !same(got, c.want) {
			t.Errorf("Diff(%+v, %+v) is %v", c.b, c.a, got)
		}
	}
	for _, d := range wrongDbs() {
		if a, b, c := impl.Diff(d, some), impl.Diff(some, d), impl.Diff(d, impl.Db{}); len(a)+len(b)+len(c) != 0 {
			t.Errorf("Diff of the wrong store %+v is %v, %v, %v", d, a, b, c)
		}
	}
}

func TestP15DiffIsEmptyForTheSameStores(t *testing.T) {
	for _, a := range rightDbs() {
		for _, b := range rightDbs() {
			if got := impl.Diff(a, b); impl.SameDb(a, b) != (len(got) == 0) || !slices.IsSorted(got) {
				t.Errorf("Diff(%+v, %+v) is %v", a, b, got)
			}
		}
	}
}

// dbLists tells of Data itself only how many rows there are.
func dbLists(name string, d impl.Db) []list {
	countOf := func(r impl.Rows) string { return strconv.Itoa(len(r.Rows)) }
	l := append(catLists(name+".Cat", d.Cat), listOf(name+".Data", d.Data, impl.Rows{Rows: make([]impl.Row, 99)}, countOf))
	for i, r := range d.Data {
		l = append(l, rowsLists(name+".Data["+strconv.Itoa(i)+"]", r.Rows)...)
	}
	return l
}

func stmtLists(name string, s impl.Stmt) []list {
	return slices.Concat(valsList(name+".Key", s.Key), valsList(name+".Row", s.Row.Vals), colLists(name+".Ddl", s.Ddl.Cols, s.Ddl.Keys))
}

func stmtsLists(name string, l []impl.Stmt) []list {
	kindOf := func(s impl.Stmt) string { return strconv.Itoa(s.Kind) + s.Table }
	out := []list{listOf(name, l, impl.Stmt{Kind: 9}, kindOf)}
	for i, s := range l {
		out = append(out, stmtLists(name+"["+strconv.Itoa(i)+"]", s)...)
	}
	return out
}

// goingStmts go on plainDb(3, 14).
func goingStmts() []impl.Stmt {
	return []impl.Stmt{
		insert("d", plainRow(-1)), insert("b", plainRow(1)), insert("d", plainRow(99)), update("d", intKey(0), rowOf(intVal(0), impl.Val{})),
		update("d", intKey(0), plainRow(99)), update("b", intKey(4), plainRow(-1)), remove("d", intKey(0)), remove("d", intKey(6)), remove("b", intKey(4)),
		empty("b"), empty("d"), change(create(tableOf("a", "k x", "k"))), change(create(tableOf("c", "k x", "k"))), change(create(tableOf("z", "k x", "k"))),
		change(drop("b")), change(drop("d")), change(add("b", freeCol("n"))), change(add("d", defCol("n", true, intVal(4)))), change(outOf("d", "x")),
		change(rename("d", "x", "n")), change(rename("b", "k", "n")),
	}
}

func TestP15ExecIsNewMemory(t *testing.T) {
	for i := range goingStmts() {
		d, s := plainDb(3, 14), goingStmts()[i]
		args := append(dbLists("d", d), stmtLists("s", s)...)
		var got impl.Db
		code := 0
		sayUnchanged(t, "Exec of "+showOf(s), args, func() { got, code = impl.Exec(d, s) })
		if code != 0 {
			t.Errorf("Exec of %+v tells %d", s, code)
		}
		sayApart(t, "Exec of "+showOf(s), append(args, dbLists("answer", got)...))
	}
}

func TestP15ExecAllIsNewMemory(t *testing.T) {
	for what, made := range map[string]func() []impl.Stmt{
		"none": func() []impl.Stmt { return nil }, "one": func() []impl.Stmt { return goingStmts()[:1] }, "many": longList,
		"a row twice": func() []impl.Stmt {
			r := plainRow(1)
			return []impl.Stmt{empty("d"), insert("d", r), insert("b", r), update("b", r.Vals[:1], r)}
		},
		"a table twice": func() []impl.Stmt {
			x := create(tableOf("m", "k x", "k"))
			other := x
			other.Table = "n"
			return []impl.Stmt{change(x), change(other)}
		},
	} {
		d, l := plainDb(3, 14), roomy(made())
		args := append(dbLists("d", d), stmtsLists("l", l)...)
		var got impl.Db
		code := 0
		sayUnchanged(t, "ExecAll of "+what, args, func() { got, code, _ = impl.ExecAll(d, l) })
		if code != 0 {
			t.Errorf("ExecAll of %s tells %d", what, code)
		}
		sayNoneShared(t, "ExecAll of "+what, args, dbLists("answer", got))
	}
}

func TestP15RowsOfIsNewMemory(t *testing.T) {
	for i, name := range []string{"b", "d", "f"} {
		d := plainDb(3, 14, impl.MaxRows)
		args := dbLists("d", d)
		var got []impl.Row
		sayUnchanged(t, "RowsOf", args, func() { got = impl.RowsOf(d, name) })
		if len(got) != len(d.Data[i].Rows) {
			t.Errorf("RowsOf %s is %+v", name, got)
		}
		sayApart(t, "RowsOf", append(args, rowsLists("answer", got)...))
	}
}

func TestP15ArgumentsOfStoresStay(t *testing.T) {
	for i, d := range append(rightDbs(), wrongDbs()[:60]...) {
		for _, s := range []impl.Stmt{insert("b", plainRow(0)), insert("b", rowOf(intVal(1))), update("b", intKey(0), plainRow(2)), remove("b", intKey(1)), change(outOf("b", "k")), {}} {
			other := plainDb(1, 2)
			l := roomy([]impl.Stmt{empty("d"), insert("d", plainRow(1)), s, s})
			args := slices.Concat(dbLists("d", d), dbLists("other", other), stmtsLists("l", l))
			sayUnchanged(t, "store "+strconv.Itoa(i), args, func() {
				impl.DbOk(d)
				impl.RowsOf(d, "none")
				impl.StmtOk(s)
				impl.Exec(d, s)
				impl.ExecAll(d, l)
				impl.SameDb(d, other)
				impl.Count(d)
				impl.Diff(d, other)
				impl.Diff(other, d)
			})
		}
	}
}
