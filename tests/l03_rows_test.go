package tests

import (
	"slices"
	"strconv"
	"testing"

	"loop.example/g00462/impl"
)

func rowOf(vals ...impl.Val) impl.Row { return impl.Row{Vals: roomy(vals)} }

func keyOf(vals ...impl.Val) []impl.Val { return roomy(vals) }

// plainTable has its key first; plainRow is a row of it.
func plainTable() impl.Table { return tableOf("t", "k x", "k") }

func plainRow(n int) impl.Row { return rowOf(intVal(n), textVal("r"+strconv.Itoa(n))) }

// evenRows are so many rows of plainTable, with the keys 0, 2, 4, ..
func evenRows(n int) []impl.Row {
	var l []impl.Row
	for i := range n {
		l = append(l, plainRow(2*i))
	}
	return roomy(l)
}

// mixedTable has columns of each type, and a key of two that aren't neighbours.
func mixedTable() impl.Table {
	cols := []impl.Col{
		{Name: "b", Ty: impl.TyBool}, {Name: "s", Ty: impl.TyText, Not: true},
		{Name: "n", Ty: impl.TyInt, Has: true, Def: intVal(7)}, {Name: "i", Ty: impl.TyInt, Not: true},
	}
	return impl.Table{Name: "mix", Cols: roomy(cols), Keys: roomy([]string{"s", "i"})}
}

func mixedRow(s string, i int) impl.Row { return rowOf(boolVal(1), textVal(s), impl.Val{}, intVal(i)) }

func mixedKey(s string, i int) []impl.Val { return keyOf(textVal(s), intVal(i)) }

// mixedRows have rising keys, in which the first column counts ahead of the second.
func mixedRows() []impl.Row {
	return roomy([]impl.Row{
		mixedRow("", 5), mixedRow("a", -impl.MaxNum), mixedRow("a", 0), mixedRow("a", 3), mixedRow("aa", -4), mixedRow("b", 1),
	})
}

func without(l []impl.Row, i int) []impl.Row { return slices.Delete(slices.Clone(l), i, i+1) }

// fillOf is a row that would be right if the table were.
func fillOf(t impl.Table) impl.Row {
	var l []impl.Val
	for _, c := range t.Cols {
		l = append(l, impl.Val{Ty: c.Ty})
	}
	return rowOf(l...)
}

// keyFillOf is its key, as far as t has the columns.
func keyFillOf(t impl.Table) []impl.Val {
	var l []impl.Val
	for _, k := range t.Keys {
		if at := impl.ColAt(t, k); at >= 0 {
			l = append(l, impl.Val{Ty: t.Cols[at].Ty})
		}
	}
	return keyOf(l...)
}

func TestP15ChapterFourConstant(t *testing.T) {
	if impl.MaxRows != 60 {
		t.Errorf("MaxRows %d", impl.MaxRows)
	}
}

func TestP15RowOk(t *testing.T) {
	for _, x := range append(rightTables(), mixedTable()) {
		right := fillOf(x)
		for i, c := range x.Cols {
			for _, v := range append(risingVals(), wrongVals()...) {
				r := rowOf(right.Vals...)
				r.Vals[i] = v
				want := impl.ValOk(v) && (v.Ty == c.Ty || v.Ty == impl.TyNull && !c.Not)
				if got := impl.RowOk(x, r); got != want {
					t.Errorf("RowOk(%+v, %+v) is %v", x, r, got)
				}
			}
		}
		few, many := rowOf(right.Vals[1:]...), rowOf(append(right.Vals, impl.Val{})...)
		if impl.RowOk(x, few) || impl.RowOk(x, many) || impl.RowOk(x, impl.Row{}) {
			t.Errorf("RowOk(%+v, ..) with too few or too many values is true", x)
		}
	}
	for _, x := range wrongTables() {
		if impl.RowOk(x, fillOf(x)) || impl.RowOk(x, impl.Row{}) {
			t.Errorf("RowOk of the table %+v is true", x)
		}
	}
}

func TestP15KeyOf(t *testing.T) {
	r := rowOf(intVal(1), intVal(2), intVal(3))
	for keys, want := range map[string][]impl.Val{
		"ka": {intVal(1)}, "kb": {intVal(2)}, "kc": {intVal(3)}, "ka kb": {intVal(1), intVal(2)},
		"ka kc": {intVal(1), intVal(3)}, "kb kc": {intVal(2), intVal(3)}, "ka kb kc": {intVal(1), intVal(2), intVal(3)},
	} {
		if got := impl.KeyOf(tableOf("t", "ka kb kc", keys), r); !same(got, want) {
			t.Errorf("the key %s is %+v", keys, got)
		}
	}
	if got := impl.KeyOf(mixedTable(), mixedRow("a", -4)); !same(got, mixedKey("a", -4)) {
		t.Errorf("the key of two columns is %+v", got)
	}
	for _, x := range wrongTables() {
		if got := impl.KeyOf(x, fillOf(x)); len(got) != 0 {
			t.Errorf("KeyOf of the table %+v is %+v", x, got)
		}
	}
	for _, r := range wrongPlainRows() {
		if got := impl.KeyOf(plainTable(), r); len(got) != 0 {
			t.Errorf("KeyOf of the row %+v is %+v", r, got)
		}
	}
}

// wrongPlainRows are no rows of plainTable.
func wrongPlainRows() []impl.Row {
	l := []impl.Row{
		{}, rowOf(intVal(1)), rowOf(textVal("a")), rowOf(intVal(1), textVal("a"), impl.Val{}), rowOf(impl.Val{}, textVal("a")),
		rowOf(textVal("a"), intVal(1)), rowOf(boolVal(1), textVal("a")), rowOf(intVal(1), intVal(1)), rowOf(intVal(1), boolVal(0)),
	}
	for _, v := range wrongVals() {
		l = append(l, rowOf(v, textVal("a")), rowOf(intVal(1), v))
	}
	return l
}

// wrongPlainKeys are no keys of plainTable.
func wrongPlainKeys() [][]impl.Val {
	l := [][]impl.Val{nil, {}, {{}}, {boolVal(0)}, {boolVal(1)}, {textVal("0")}, {textVal("")}, {intVal(0), intVal(0)}, {intVal(0), {}}, {{}, intVal(0)}}
	for _, v := range wrongVals() {
		l = append(l, keyOf(v), keyOf(intVal(0), v))
	}
	return l
}

func TestP15KeyOk(t *testing.T) {
	for _, x := range append(rightTables(), mixedTable()) {
		right := keyFillOf(x)
		for i, name := range x.Keys {
			ty := x.Cols[impl.ColAt(x, name)].Ty
			for _, v := range append(risingVals(), wrongVals()...) {
				key := keyOf(right...)
				key[i] = v
				if got := impl.KeyOk(x, key); got != (impl.ValOk(v) && v.Ty == ty) {
					t.Errorf("KeyOk(%+v, %+v) is %v", x, key, got)
				}
			}
		}
		if impl.KeyOk(x, right[1:]) || impl.KeyOk(x, append(right, intVal(0))) || impl.KeyOk(x, append(right, impl.Val{})) {
			t.Errorf("KeyOk(%+v, ..) with too few or too many values is true", x)
		}
	}
	for _, x := range wrongTables() {
		if impl.KeyOk(x, keyFillOf(x)) || impl.KeyOk(x, nil) {
			t.Errorf("KeyOk of the table %+v is true", x)
		}
	}
	for _, key := range wrongPlainKeys() {
		if impl.KeyOk(plainTable(), key) {
			t.Errorf("KeyOk of %+v is true", key)
		}
	}
}

func TestP15KeyLess(t *testing.T) {
	rising := [][]impl.Val{nil}
	vals := []impl.Val{{}, boolVal(0), boolVal(1), intVal(-10), intVal(-9), intVal(9), intVal(10), textVal(""), textVal("a"), textVal("aa"), textVal("b")}
	for _, a := range vals {
		rising = append(rising, keyOf(a))
		for _, b := range vals {
			rising = append(rising, keyOf(a, b), keyOf(a, b, impl.Val{}), keyOf(a, b, textVal("z")))
		}
	}
	for i, a := range rising {
		for j, b := range rising {
			if got := impl.KeyLess(a, b); got != (i < j) {
				t.Errorf("KeyLess(%+v, %+v) is %v", a, b, got)
			}
		}
	}
}

func TestP15KeyLessOfWrongValues(t *testing.T) {
	one, two := intVal(1), intVal(2)
	for _, w := range wrongVals() {
		for _, c := range []struct {
			a, b []impl.Val
			want bool
		}{
			{keyOf(w), keyOf(one), false}, {keyOf(one), keyOf(w), false}, {keyOf(impl.Val{}), keyOf(w), false},
			{keyOf(w), keyOf(one, one), false}, {keyOf(w, one), keyOf(one, two), false}, {keyOf(w), keyOf(w), false},
			{keyOf(w, one), keyOf(w, two), true}, {keyOf(w, two), keyOf(w, one), false},
			{keyOf(w), keyOf(w, w), true}, {keyOf(w, w), keyOf(w), false}, {nil, keyOf(w), true}, {keyOf(w), nil, false},
			{keyOf(one, w), keyOf(two, one), true}, {keyOf(two, w), keyOf(one, w), false},
		} {
			if got := impl.KeyLess(c.a, c.b); got != c.want {
				t.Errorf("KeyLess(%+v, %+v) is %v", c.a, c.b, got)
			}
		}
	}
}

func TestP15RowsOk(t *testing.T) {
	for n := range impl.MaxRows + 1 {
		if !impl.RowsOk(plainTable(), evenRows(n)) {
			t.Errorf("RowsOk of %d rows is false", n)
		}
	}
	for _, n := range []int{impl.MaxRows + 1, impl.MaxRows + 2, 300} {
		if impl.RowsOk(plainTable(), evenRows(n)) {
			t.Errorf("RowsOk of %d rows is true", n)
		}
	}
	if !impl.RowsOk(mixedTable(), mixedRows()) {
		t.Error("RowsOk of rows with two keys is false")
	}
	for _, x := range append(rightTables(), wrongTables()...) {
		if !impl.RowsOk(x, nil) || !impl.RowsOk(x, []impl.Row{}) {
			t.Errorf("RowsOk(%+v, no rows) is false", x)
		}
		if got := impl.RowsOk(x, []impl.Row{fillOf(x)}); got != impl.TableOk(x) {
			t.Errorf("RowsOk(%+v, a row) is %v", x, got)
		}
	}
}

// wrongPlainLists are no right rows of plainTable.
func wrongPlainLists() [][]impl.Row {
	l := [][]impl.Row{evenRows(impl.MaxRows + 1), {plainRow(1), plainRow(1)}, {plainRow(1), rowOf(intVal(1), textVal("other"))}}
	for i := range 3 {
		swapped, twice := evenRows(4), evenRows(4)
		swapped[i], swapped[i+1] = swapped[i+1], swapped[i]
		l = append(l, swapped, slices.Insert(twice, i, plainRow(2*i)))
	}
	for i := range 3 {
		for _, r := range wrongPlainRows() {
			wrong := evenRows(3)
			wrong[i] = r
			l = append(l, wrong)
		}
	}
	return l
}

func TestP15RowsOutOfOrderTwiceOrWrong(t *testing.T) {
	for _, l := range wrongPlainLists() {
		if impl.RowsOk(plainTable(), l) {
			t.Errorf("RowsOk of %+v is true", l)
		}
	}
	rows := mixedRows()
	for i := range rows {
		for j := range rows {
			if got := impl.RowsOk(mixedTable(), []impl.Row{rows[i], rows[j]}); got != (i < j) {
				t.Errorf("RowsOk of the rows %+v and %+v is %v", rows[i], rows[j], got)
			}
		}
	}
}

func TestP15RowAt(t *testing.T) {
	x := plainTable()
	for _, n := range []int{0, 1, 2, 3, impl.MaxRows} {
		for i := range n {
			if got := impl.RowAt(x, evenRows(n), keyOf(intVal(2*i))); got != i {
				t.Errorf("RowAt of the key %d of %d rows is %d", 2*i, n, got)
			}
		}
		for i := range n + 1 {
			if got := impl.RowAt(x, evenRows(n), keyOf(intVal(2*i-1))); got != -1 {
				t.Errorf("RowAt of the key %d of %d rows is %d", 2*i-1, n, got)
			}
		}
		for _, key := range wrongPlainKeys() {
			if got := impl.RowAt(x, evenRows(n), key); got != -1 {
				t.Errorf("RowAt of the key %+v of %d rows is %d", key, n, got)
			}
		}
	}
	for i, r := range mixedRows() {
		if got := impl.RowAt(mixedTable(), mixedRows(), keyOf(r.Vals[1], r.Vals[3])); got != i {
			t.Errorf("RowAt of the row %+v is %d", r, got)
		}
	}
	for _, key := range [][]impl.Val{mixedKey("a", 5), mixedKey("b", 0), {textVal("a")}, {intVal(3), textVal("a")}, append(mixedKey("a", 0), intVal(0))} {
		if got := impl.RowAt(mixedTable(), mixedRows(), key); got != -1 {
			t.Errorf("RowAt of the key %+v is %d", key, got)
		}
	}
}

func TestP15RowAtOfWrongRows(t *testing.T) {
	for _, l := range wrongPlainLists() {
		for n := range 8 {
			if got := impl.RowAt(plainTable(), l, keyOf(intVal(n))); got != -1 {
				t.Errorf("RowAt of %+v is %d", l, got)
			}
		}
	}
	for _, x := range wrongTables() {
		if a, b := impl.RowAt(x, []impl.Row{fillOf(x)}, keyFillOf(x)), impl.RowAt(x, nil, nil); a != -1 || b != -1 {
			t.Errorf("RowAt of the table %+v is %d, %d", x, a, b)
		}
	}
}

func TestP9PutRowsComeToTheirPlaceAndGo(t *testing.T) {
	x := plainTable()
	for _, n := range []int{0, 1, 2, 12, 13, impl.MaxRows - 1} {
		for i := range n + 1 {
			l, r := evenRows(n), plainRow(2*i-1)
			put, code := impl.RowPut(x, l, r)
			if want := slices.Insert(evenRows(n), i, r); code != 0 || !same(put, want) {
				t.Errorf("RowPut of %+v among %d rows is %+v, %d", r, n, put, code)
			}
			back, code := impl.RowOut(x, put, impl.KeyOf(x, r))
			if code != 0 || !same(back, l) {
				t.Errorf("RowOut of %+v among %d rows is %+v, %d", r, n, back, code)
			}
		}
	}
	for i, r := range mixedRows() {
		put, code := impl.RowPut(mixedTable(), without(mixedRows(), i), r)
		if code != 0 || !same(put, mixedRows()) {
			t.Errorf("RowPut of %+v is %+v, %d", r, put, code)
		}
	}
}

func TestP9RowsGoOut(t *testing.T) {
	for _, n := range []int{1, 2, 3, impl.MaxRows} {
		for i := range n {
			got, code := impl.RowOut(plainTable(), evenRows(n), keyOf(intVal(2*i)))
			if code != 0 || !same(got, without(evenRows(n), i)) {
				t.Errorf("RowOut of the row %d of %d is %+v, %d", i, n, got, code)
			}
		}
	}
	for i, r := range mixedRows() {
		got, code := impl.RowOut(mixedTable(), mixedRows(), impl.KeyOf(mixedTable(), r))
		if code != 0 || !same(got, without(mixedRows(), i)) {
			t.Errorf("RowOut of %+v is %+v, %d", r, got, code)
		}
	}
}

func TestP9SetRowsWhoseKeyStays(t *testing.T) {
	for _, n := range []int{1, 2, 3, impl.MaxRows} {
		for i := range n {
			want := evenRows(n)
			want[i] = rowOf(intVal(2*i), impl.Val{})
			got, code := impl.RowSet(plainTable(), evenRows(n), keyOf(intVal(2*i)), want[i])
			if code != 0 || !same(got, want) {
				t.Errorf("RowSet of the row %d of %d is %+v, %d", i, n, got, code)
			}
			again, code := impl.RowSet(plainTable(), got, keyOf(intVal(2*i)), plainRow(2*i))
			if code != 0 || !same(again, evenRows(n)) {
				t.Errorf("RowSet back of the row %d of %d is %+v, %d", i, n, again, code)
			}
		}
	}
}

func TestP9SetRowsWhoseKeyBecomesAnother(t *testing.T) {
	for _, n := range []int{1, 2, 3, 14, impl.MaxRows} {
		for i := range n {
			for j := range n + 1 {
				r := plainRow(2*j - 1)
				at := j
				if j > i {
					at--
				}
				want := slices.Insert(without(evenRows(n), i), at, r)
				got, code := impl.RowSet(plainTable(), evenRows(n), keyOf(intVal(2*i)), r)
				if code != 0 || !same(got, want) {
					t.Errorf("RowSet of the row %d of %d to %+v is %+v, %d", i, n, r, got, code)
				}
			}
		}
	}
	got, code := impl.RowSet(mixedTable(), mixedRows(), mixedKey("a", 3), mixedRow("b", 0))
	want := slices.Insert(without(mixedRows(), 3), 4, mixedRow("b", 0))
	if code != 0 || !same(got, want) {
		t.Errorf("RowSet of two keys is %+v, %d", got, code)
	}
}

func sayCode(t *testing.T, what string, got []impl.Row, code int, want int) {
	t.Helper()
	if code != want || code != 0 && len(got) != 0 {
		t.Errorf("%s is %+v, %d; not %d", what, got, code, want)
	}
}

func TestP15CodesOfRowPut(t *testing.T) {
	x, full := plainTable(), evenRows(impl.MaxRows)
	for _, c := range []struct {
		what string
		l    []impl.Row
		r    impl.Row
		code int
	}{
		{"a wrong row among wrong rows", evenRows(impl.MaxRows + 1), impl.Row{}, 1},
		{"a row that is there among wrong rows", append(evenRows(3), plainRow(4)), plainRow(2), 1},
		{"one row too many", evenRows(impl.MaxRows + 1), plainRow(1), 1},
		{"a wrong row", evenRows(3), impl.Row{}, 2}, {"a wrong row among none", nil, impl.Row{}, 2},
		{"a wrong row with a key that is there", evenRows(3), rowOf(intVal(2), intVal(2)), 2},
		{"a wrong row among MaxRows", full, rowOf(intVal(1), intVal(1)), 2},
		{"the first row again", evenRows(3), plainRow(0), 3}, {"the last row again", evenRows(3), plainRow(4), 3},
		{"a key that is there", evenRows(3), rowOf(intVal(2), impl.Val{}), 3},
		{"a key that is there among MaxRows", full, plainRow(0), 3}, {"the last key among MaxRows", full, plainRow(2*impl.MaxRows - 2), 3},
		{"a row ahead of MaxRows", full, plainRow(-1), 4}, {"a row behind MaxRows", full, plainRow(2 * impl.MaxRows), 4},
		{"a row within MaxRows", full, plainRow(51), 4}, {"the last that has a place", evenRows(impl.MaxRows - 1), plainRow(51), 0},
	} {
		got, code := impl.RowPut(x, c.l, c.r)
		sayCode(t, "RowPut of "+c.what, got, code, c.code)
	}
}

func TestP15CodesOfRowSet(t *testing.T) {
	x, none, two := plainTable(), keyOf(intVal(7)), keyOf(intVal(2))
	for _, c := range []struct {
		what string
		l    []impl.Row
		key  []impl.Val
		r    impl.Row
		code int
	}{
		{"wrong rows, a wrong row, no such key", evenRows(impl.MaxRows + 1), none, impl.Row{}, 1},
		{"wrong rows, else all right", append(evenRows(3), plainRow(4)), two, plainRow(2), 1},
		{"a wrong row, no such key", evenRows(3), none, impl.Row{}, 2}, {"a wrong row, a wrong key", evenRows(3), nil, impl.Row{}, 2},
		{"a wrong row, among none", nil, none, impl.Row{}, 2},
		{"a wrong row with a key that is there", evenRows(3), two, rowOf(intVal(4), intVal(4)), 2},
		{"a key that isn't there, a row that is", evenRows(3), none, plainRow(4), 5}, {"a key among none", nil, none, plainRow(7), 5},
		{"a key that isn't there, its own row", evenRows(3), none, plainRow(7), 5},
		{"no key, a row that is there", evenRows(3), nil, plainRow(4), 5}, {"a key of null", evenRows(3), keyOf(impl.Val{}), plainRow(4), 5},
		{"a key of another type", evenRows(3), keyOf(textVal("2")), plainRow(2), 5},
		{"a key too long", evenRows(3), keyOf(intVal(2), textVal("r2")), plainRow(2), 5},
		{"the row ahead", evenRows(3), two, plainRow(0), 3}, {"the row behind", evenRows(3), two, rowOf(intVal(4), impl.Val{}), 3},
		{"the row behind among MaxRows", evenRows(impl.MaxRows), two, plainRow(4), 3},
		{"another key among MaxRows", evenRows(impl.MaxRows), two, plainRow(-9), 0}, {"its own key", evenRows(3), two, plainRow(2), 0},
	} {
		got, code := impl.RowSet(x, c.l, c.key, c.r)
		sayCode(t, "RowSet of "+c.what, got, code, c.code)
	}
}

func TestP15CodesOfRowOut(t *testing.T) {
	x := plainTable()
	for _, l := range wrongPlainLists() {
		for _, key := range [][]impl.Val{nil, keyOf(intVal(1)), keyOf(intVal(2)), keyOf(textVal("a"))} {
			got, code := impl.RowOut(x, l, key)
			sayCode(t, "RowOut of wrong rows", got, code, 1)
		}
	}
	for _, n := range []int{0, 1, 5, impl.MaxRows} {
		for _, key := range append(wrongPlainKeys(), keyOf(intVal(-1)), keyOf(intVal(1)), keyOf(intVal(2*impl.MaxRows))) {
			got, code := impl.RowOut(x, evenRows(n), key)
			sayCode(t, "RowOut of a key that isn't there", got, code, 5)
		}
	}
}

func TestP15WrongRowsAreCodeOneOrTwo(t *testing.T) {
	x := plainTable()
	for _, l := range wrongPlainLists() {
		for _, r := range append(wrongPlainRows(), plainRow(1), plainRow(2)) {
			got, code := impl.RowPut(x, l, r)
			sayCode(t, "RowPut among wrong rows", got, code, 1)
			got, code = impl.RowSet(x, l, keyOf(intVal(2)), r)
			sayCode(t, "RowSet among wrong rows", got, code, 1)
		}
	}
	for _, r := range wrongPlainRows() {
		for _, n := range []int{0, 1, 5, impl.MaxRows} {
			got, code := impl.RowPut(x, evenRows(n), r)
			sayCode(t, "RowPut of a wrong row", got, code, 2)
			got, code = impl.RowSet(x, evenRows(n), keyOf(intVal(2)), r)
			sayCode(t, "RowSet of a wrong row", got, code, 2)
		}
	}
}

func TestP15CodesOfAWrongTable(t *testing.T) {
	for _, x := range wrongTables() {
		r, key := fillOf(x), keyFillOf(x)
		for _, l := range [][]impl.Row{nil, {r}} {
			first := 1 - len(l)
			got, code := impl.RowPut(x, l, r)
			sayCode(t, "RowPut in a wrong table", got, code, 1+first)
			got, code = impl.RowSet(x, l, key, r)
			sayCode(t, "RowSet in a wrong table", got, code, 1+first)
			got, code = impl.RowOut(x, l, key)
			sayCode(t, "RowOut in a wrong table", got, code, 1+4*first)
			for _, d := range []impl.Ddl{drop(x.Name), add(x.Name, freeCol("new")), outOf(x.Name, "x"), rename(x.Name, "x", "new")} {
				got, code = impl.RowsDdl(x, l, d)
				sayCode(t, "RowsDdl in a wrong table", got, code, 1)
			}
		}
	}
}

func TestP9ChangedRows(t *testing.T) {
	for _, c := range rightCols() {
		if !c.Has && c.Not {
			continue
		}
		x, want := tableOf("t", "ka kb", "kb"), roomy([]impl.Row{rowOf(intVal(9), intVal(1), c.Def), rowOf(intVal(8), intVal(2), c.Def)})
		l := roomy([]impl.Row{rowOf(intVal(9), intVal(1)), rowOf(intVal(8), intVal(2))})
		c.Name = "n"
		if got, code := impl.RowsDdl(x, l, add("t", c)); code != 0 || !same(got, want) {
			t.Errorf("RowsDdl of the column %+v is %+v, %d", c, got, code)
		}
	}
	rows := roomy([]impl.Row{
		rowOf(textVal("a"), intVal(1), textVal("b"), intVal(5), textVal("c")), rowOf(textVal("d"), intVal(2), impl.Val{}, intVal(6), textVal("e")),
	})
	x := tableOf("t", "x ka y kb z", "ka")
	for i, name := range []string{"x", "ka", "y", "kb", "z"} {
		var want []impl.Row
		for _, r := range rows {
			want = append(want, rowOf(slices.Delete(slices.Clone(r.Vals), i, i+1)...))
		}
		got, code := impl.RowsDdl(x, rows, outOf("t", name))
		if name == "ka" && code != 8 || name != "ka" && (code != 0 || !same(got, want)) {
			t.Errorf("RowsDdl without %s is %+v, %d", name, got, code)
		}
		if got, code := impl.RowsDdl(x, rows, rename("t", name, "new")); code != 0 || !same(got, rows) {
			t.Errorf("RowsDdl with a name for %s is %+v, %d", name, got, code)
		}
	}
	for _, n := range []int{0, 1, impl.MaxRows} {
		if got, code := impl.RowsDdl(plainTable(), evenRows(n), drop("t")); code != 0 || len(got) != 0 {
			t.Errorf("RowsDdl of a drop of %d rows is %+v, %d", n, got, code)
		}
	}
}

func TestP15CodesOfRowsDdl(t *testing.T) {
	small, wide := tableOf("t", "ka x kb y kc", "ka kb"), tableOf("t", namesOf("k", impl.MaxCols), "k")
	for _, c := range []struct {
		x    impl.Table
		d    impl.Ddl
		code int
	}{
		{small, create(small), 1}, {small, create(tableOf("u", "k", "k")), 1}, {small, create(tableOf("t", "k", "k")), 1},
		{small, drop("u"), 1}, {small, add("u", freeCol("x")), 1}, {small, outOf("u", "ka"), 1}, {small, outOf("tt", "x"), 1},
		{small, rename("u", "x", "new"), 1}, {small, rename("u", "none", "x"), 1}, {small, impl.Ddl{}, 1}, {small, impl.Ddl{Table: "t"}, 1},
		{small, add("t", freeCol("x")), 5}, {small, add("t", freeCol("ka")), 5}, {wide, add("t", freeCol("ch")), 5},
		{small, rename("t", "x", "y"), 5}, {small, rename("t", "x", "x"), 5}, {small, rename("t", "none", "x"), 5},
		{wide, add("t", freeCol("new")), 6}, {small, outOf("t", "none"), 7}, {small, rename("t", "none", "new"), 7},
		{small, outOf("t", "ka"), 8}, {small, outOf("t", "kb"), 8}, {small, outOf("t", "kc"), 0}, {wide, outOf("t", "ch"), 0},
	} {
		for _, l := range [][]impl.Row{nil, {fillOf(c.x)}} {
			got, code := impl.RowsDdl(c.x, l, c.d)
			sayCode(t, "RowsDdl of "+showOf(c.d), got, code, c.code)
		}
		got, code := impl.RowsDdl(c.x, []impl.Row{fillOf(c.x), fillOf(c.x)}, c.d)
		sayCode(t, "RowsDdl of wrong rows", got, code, 1)
	}
	for _, d := range wrongDdls() {
		got, code := impl.RowsDdl(small, []impl.Row{fillOf(small)}, d)
		sayCode(t, "RowsDdl of a wrong change", got, code, 1)
	}
}

func TestP9WhatGoesLeavesRowsRight(t *testing.T) {
	seen := map[int]int{}
	for _, x := range append(rightTables(), mixedTable(), tableOf("b", "x ka kb y", "ka")) {
		for _, l := range [][]impl.Row{nil, {fillOf(x)}} {
			for _, d := range rightDdls() {
				rows, code := impl.RowsDdl(x, l, d)
				seen[code]++
				c, other := impl.DdlApply(catOf(x), d)
				if code == 1 {
					sayCode(t, "RowsDdl", rows, code, 1)
				} else if code != other || code != 0 && len(rows) != 0 {
					t.Errorf("RowsDdl(%+v, %+v, %+v) is %+v, %d", x, l, d, rows, code)
				} else if code == 0 && len(c.Tables) == 1 && (!impl.RowsOk(c.Tables[0], rows) || len(rows) != len(l)) {
					t.Errorf("RowsDdl(%+v, %+v, %+v) is %+v", x, l, d, rows)
				}
			}
		}
	}
	for _, code := range []int{0, 1, 5, 6, 7, 8} {
		if seen[code] == 0 {
			t.Errorf("code %d never came", code)
		}
	}
}

func TestP15SameRows(t *testing.T) {
	lists := [][]impl.Row{
		nil, {{}}, {{}, {}}, {rowOf(impl.Val{})}, {rowOf(impl.Val{}, impl.Val{})}, {rowOf(impl.Val{}), rowOf(impl.Val{})},
		{rowOf(impl.Val{}), {}}, {{}, rowOf(impl.Val{})}, {plainRow(1)}, {plainRow(2)}, {plainRow(1), plainRow(2)}, {plainRow(2), plainRow(1)},
		{plainRow(1), plainRow(1)}, {rowOf(intVal(1), textVal("r1"), impl.Val{})}, {rowOf(textVal("r1"), intVal(1))}, {rowOf(intVal(1))},
		{rowOf(boolVal(1))}, {rowOf(textVal("1"))}, {rowOf(impl.Val{Ty: 9, N: 1, S: "a"})}, {rowOf(impl.Val{Ty: 9, N: 1, S: "b"})},
		evenRows(impl.MaxRows), evenRows(impl.MaxRows + 1), mixedRows(),
	}
	for i, a := range lists {
		for j, b := range lists {
			if got := impl.SameRows(a, copyOfRows(b)); got != (i == j) {
				t.Errorf("SameRows(%+v, %+v) is %v", a, b, got)
			}
		}
	}
	if !impl.SameRows(nil, []impl.Row{}) || !impl.SameRows([]impl.Row{{}}, []impl.Row{{Vals: []impl.Val{}}}) {
		t.Error("SameRows of a nil and an empty list is false")
	}
}

func copyOfRows(l []impl.Row) []impl.Row {
	var out []impl.Row
	for _, r := range l {
		out = append(out, rowOf(r.Vals...))
	}
	return roomy(out)
}

func valsList(name string, l []impl.Val) []list {
	return []list{listOf(name, l, impl.Val{Ty: 9, N: 9, S: "junk"}, showOf)}
}

// rowsLists tells of the list itself only how long its rows are, since what
// they hold is a list of its own.
func rowsLists(name string, l []impl.Row) []list {
	lengthOf := func(r impl.Row) string { return strconv.Itoa(len(r.Vals)) }
	out := []list{listOf(name, l, impl.Row{Vals: make([]impl.Val, 99)}, lengthOf)}
	for i, r := range l {
		out = append(out, valsList(name+"["+strconv.Itoa(i)+"].Vals", r.Vals)...)
	}
	return out
}

// sayNewRows asks that a call leaves its arguments, and shares nothing with them.
func sayNewRows(t *testing.T, what string, args []list, call func() ([]impl.Row, int)) {
	t.Helper()
	var got []impl.Row
	code := 0
	sayUnchanged(t, what, args, func() { got, code = call() })
	if code != 0 || len(got) == 0 {
		t.Errorf("%s is %+v, %d", what, got, code)
	}
	sayApart(t, what, append(args, rowsLists("answer", got)...))
}

func TestP15RowsAreNewMemory(t *testing.T) {
	for _, n := range []int{2, 14, impl.MaxRows - 1} {
		for i := range 2 {
			for _, key := range []int{-1, 0, 1, 2*n - 1} {
				x, l, r, k := plainTable(), evenRows(n), plainRow(key), keyOf(intVal(2*i))
				args := slices.Concat(tableLists("t", x), rowsLists("l", l), valsList("r", r.Vals), valsList("key", k))
				if key%2 != 0 {
					sayNewRows(t, "RowPut", args, func() ([]impl.Row, int) { return impl.RowPut(x, l, r) })
				}
			}
			for _, key := range []int{-1, 2 * i, 1, 2*n - 1} {
				x, l, r, k := plainTable(), evenRows(n), plainRow(key), keyOf(intVal(2*i))
				args := slices.Concat(tableLists("t", x), rowsLists("l", l), valsList("r", r.Vals), valsList("key", k))
				sayNewRows(t, "RowSet", args, func() ([]impl.Row, int) { return impl.RowSet(x, l, k, r) })
			}
			x, l, k := plainTable(), evenRows(n), keyOf(intVal(2*i))
			args := slices.Concat(tableLists("t", x), rowsLists("l", l), valsList("key", k))
			sayNewRows(t, "RowOut", args, func() ([]impl.Row, int) { return impl.RowOut(x, l, k) })
		}
	}
}

func TestP15ChangedRowsAreNewMemory(t *testing.T) {
	for _, d := range []impl.Ddl{add("t", freeCol("n")), add("t", defCol("n", true, intVal(4))), outOf("t", "x"), rename("t", "x", "n"), rename("t", "k", "n")} {
		x, l := plainTable(), evenRows(5)
		args := slices.Concat(tableLists("t", x), rowsLists("l", l), colLists("d", d.Cols, d.Keys))
		sayNewRows(t, "RowsDdl", args, func() ([]impl.Row, int) { return impl.RowsDdl(x, l, d) })
	}
	x, l := plainTable(), evenRows(5)
	sayUnchanged(t, "RowsDdl of a drop", append(tableLists("t", x), rowsLists("l", l)...), func() { impl.RowsDdl(x, l, drop("t")) })
}

func TestP15KeyOfIsNewMemory(t *testing.T) {
	for _, x := range []impl.Table{tableOf("t", "ka", "ka"), tableOf("t", "ka kb", "ka"), tableOf("t", "ka kb kc", "ka kb kc"), tableOf("t", "x ka", "ka")} {
		r := fillOf(x)
		args := append(tableLists("t", x), valsList("r", r.Vals)...)
		var got []impl.Val
		sayUnchanged(t, "KeyOf", args, func() { got = impl.KeyOf(x, r) })
		if len(got) != len(x.Keys) {
			t.Errorf("KeyOf is %+v", got)
		}
		sayApart(t, "KeyOf", append(args, valsList("answer", got)...))
	}
}

func TestP15ArgumentsOfRowsStay(t *testing.T) {
	lists := append(wrongPlainLists(), evenRows(3), evenRows(impl.MaxRows))
	for i, l := range lists {
		x, r, key := plainTable(), plainRow(4), keyOf(intVal(2))
		args := slices.Concat(tableLists("t", x), rowsLists("l", l), valsList("r", r.Vals), valsList("key", key))
		sayUnchanged(t, "list "+strconv.Itoa(i), args, func() {
			impl.RowOk(x, r)
			impl.KeyOk(x, key)
			impl.KeyLess(key, r.Vals)
			impl.RowsOk(x, l)
			impl.RowAt(x, l, key)
			impl.RowPut(x, l, r)
			impl.RowSet(x, l, key, r)
			impl.RowOut(x, l, keyOf(intVal(1)))
			impl.RowsDdl(x, l, outOf("t", "k"))
			impl.SameRows(l, lists[0])
		})
	}
}
