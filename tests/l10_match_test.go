package tests

import (
	"slices"
	"strconv"
	"strings"
	"testing"

	"loop.example/g00462/impl"
)

// Tables, stores and statements are told as texts here.
func storeOf(t *testing.T, lines ...string) impl.Db {
	t.Helper()
	d, ok := impl.TextDb(strings.Join(append(lines, ""), "\n"))
	if !ok {
		t.Fatalf("%q is no store", lines)
	}
	return d
}

func tableIn(t *testing.T, line string) impl.Table {
	t.Helper()
	return storeOf(t, line).Cat.Tables[0]
}

func stmtOf(t *testing.T, s string) impl.Stmt {
	t.Helper()
	x, ok := impl.TextStmt(s)
	if !ok {
		t.Fatalf("%q is no statement", s)
	}
	return x
}

func valsOfText(t *testing.T, s string) []impl.Val {
	t.Helper()
	var l []impl.Val
	for _, w := range strings.Fields(s) {
		v, ok := impl.TextVal(w)
		if !ok {
			t.Fatalf("%q is no value", w)
		}
		l = append(l, v)
	}
	return roomy(l)
}

// Chapter 11 a second time, in another way than the program does it: names are
// looked for one by one.
func timesIn(l []string, name string) int {
	n := 0
	for _, x := range l {
		if x == name {
			n++
		}
	}
	return n
}

func eachOnceIn(names []string, l []string) bool {
	for _, x := range names {
		if timesIn(l, x) != 1 {
			return false
		}
	}
	return true
}

func noneMissing(names []string, t impl.Table) bool {
	for _, x := range names {
		if impl.ColAt(t, x) < 0 {
			return false
		}
	}
	return true
}

// sameNames sorts both, so that it is another way than the program's.
func sameNames(a []string, b []string) bool {
	a, b = slices.Clone(a), slices.Clone(b)
	slices.Sort(a)
	slices.Sort(b)
	return slices.Equal(a, b)
}

func driftIn(cols []string, keys []string, x impl.Table) int {
	if !impl.TableOk(x) || !eachOnceIn(cols, cols) || !eachOnceIn(keys, cols) || !eachOnceIn(keys, keys) {
		return 1
	}
	if !noneMissing(cols, x) {
		return 11
	}
	if !sameNames(keys, x.Keys) {
		return 12
	}
	for _, c := range x.Cols {
		if timesIn(cols, c.Name) == 0 && c.Not && !c.Has {
			return 13
		}
	}
	return 0
}

// rowByNames takes what isn't told from the row that is there, if there is one.
func rowByNames(cols []string, x impl.Table, vals []impl.Val, there *impl.Row) (impl.Row, int) {
	if !impl.TableOk(x) || !eachOnceIn(cols, cols) || len(vals) != len(cols) {
		return impl.Row{}, 1
	}
	if !noneMissing(cols, x) {
		return impl.Row{}, 11
	}
	var r impl.Row
	for i, c := range x.Cols {
		r.Vals = append(r.Vals, c.Def)
		if there != nil {
			r.Vals[i] = there.Vals[i]
		}
	}
	for i, name := range cols {
		r.Vals[impl.ColAt(x, name)] = vals[i]
	}
	if !impl.RowOk(x, r) {
		return impl.Row{}, 14
	}
	return r, 0
}

func keyByNames(keys []string, x impl.Table, vals []impl.Val) ([]impl.Val, int) {
	if !impl.TableOk(x) || !eachOnceIn(keys, keys) || len(vals) != len(keys) {
		return nil, 1
	}
	if !sameNames(keys, x.Keys) {
		return nil, 12
	}
	var key []impl.Val
	for _, name := range x.Keys {
		for i, k := range keys {
			if k == name {
				key = append(key, vals[i])
			}
		}
	}
	if !impl.KeyOk(x, key) {
		return nil, 14
	}
	return key, 0
}

func stmtByNames(d impl.Db, p impl.Part) (impl.Stmt, int) {
	s := p.Stmt
	if !impl.DbOk(d) || !impl.StmtOk(s) {
		return impl.Stmt{}, 1
	}
	if s.Kind == impl.StDdl {
		return s, 0
	}
	x, ok := impl.TableOf(d.Cat, s.Table)
	if !ok {
		return impl.Stmt{}, 10
	}
	code := driftIn(p.Cols, p.Keys, x)
	out := impl.Stmt{Kind: s.Kind, Table: s.Table}
	var there *impl.Row
	if code == 0 && len(s.Key) > 0 {
		out.Key, code = keyByNames(p.Keys, x, s.Key)
		rows := impl.RowsOf(d, s.Table)
		if at := impl.RowAt(x, rows, out.Key); at >= 0 {
			there = &rows[at]
		}
	}
	if code == 0 && len(s.Row.Vals) > 0 {
		out.Row, code = rowByNames(p.Cols, x, s.Row.Vals, there)
	}
	if code != 0 {
		return impl.Stmt{}, code
	}
	return out, 0
}

// toldLike is a table of like as it is told of a store that has from.
func toldLike(from impl.Table, x impl.Table) impl.Table {
	out := impl.Table{Name: x.Name, Keys: x.Keys}
	for _, c := range x.Cols {
		if impl.ColAt(from, c.Name) < 0 {
			c = impl.Col{Name: c.Name, Ty: c.Ty}
		}
		out.Cols = append(out.Cols, c)
	}
	return out
}

// projectIn puts the rows one by one into tables that are made one by one.
func projectIn(d impl.Db, like impl.Db) (impl.Db, bool) {
	if !impl.DbOk(d) || !impl.DbOk(like) {
		return impl.Db{}, false
	}
	var l []impl.Stmt
	for _, x := range like.Cat.Tables {
		from, ok := impl.TableOf(d.Cat, x.Name)
		if !ok || !noneMissing(x.Keys, from) {
			return impl.Db{}, false
		}
		l = append(l, change(create(toldLike(from, x))))
		for _, r := range impl.RowsOf(d, x.Name) {
			var out impl.Row
			for _, c := range x.Cols {
				v := impl.Val{}
				if at := impl.ColAt(from, c.Name); at >= 0 {
					v = r.Vals[at]
				}
				out.Vals = append(out.Vals, v)
			}
			l = append(l, insert(x.Name, out))
		}
	}
	out, code, _ := impl.ExecAll(impl.Db{}, l)
	return out, code == 0
}

// saySeen asks that each of these codes came some times.
func saySeen(t *testing.T, seen map[int]int, codes ...int) {
	t.Helper()
	for _, code := range codes {
		if seen[code] < 10 {
			t.Errorf("the code %d came %d times", code, seen[code])
		}
	}
}

func sayDrift(t *testing.T, cols string, keys string, x impl.Table, want int) {
	t.Helper()
	if got := impl.Drift(roomy(strings.Fields(cols)), roomy(strings.Fields(keys)), x); got != want {
		t.Errorf("Drift of (%s), (%s) in %+v is %d, not %d", cols, keys, x, got, want)
	}
}

func sayMapRow(t *testing.T, cols []string, x impl.Table, vals []impl.Val, want impl.Row, code int) {
	t.Helper()
	if got, c := impl.MapRow(cols, x, vals); c != code || !same(got, want) {
		t.Errorf("MapRow(%v, %+v, %+v) is %+v, %d; not %+v, %d", cols, x, vals, got, c, want, code)
	}
}

func sayMapKey(t *testing.T, keys []string, x impl.Table, vals []impl.Val, want []impl.Val, code int) {
	t.Helper()
	if got, c := impl.MapKey(keys, x, vals); c != code || !same(got, want) {
		t.Errorf("MapKey(%v, %+v, %+v) is %+v, %d; not %+v, %d", keys, x, vals, got, c, want, code)
	}
}

func sayMapStmt(t *testing.T, d impl.Db, p impl.Part, want impl.Stmt, code int) {
	t.Helper()
	if got, c := impl.MapStmt(d, p); c != code || !same(got, want) {
		t.Errorf("MapStmt(%+v, %+v) is %+v, %d; not %+v, %d", d, p, got, c, want, code)
	}
}

func sayProject(t *testing.T, d impl.Db, like impl.Db, want impl.Db) {
	t.Helper()
	if got, ok := impl.Project(d, like); !ok || !same(got, want) || !impl.SameDb(got, want) {
		t.Errorf("Project(%+v, %+v) is %+v, %v; not %+v", d, like, got, ok, want)
	}
}

func sayNoProject(t *testing.T, d impl.Db, like impl.Db) {
	t.Helper()
	if got, ok := impl.Project(d, like); ok || !same(got, impl.Db{}) {
		t.Errorf("Project(%+v, %+v) is %+v, %v", d, like, got, ok)
	}
}

// allLists are all lists of at most n of the words, some of them more than once.
func allLists(words []string, n int) [][]string {
	out := [][]string{nil}
	for from := 0; n > 0; n-- {
		to := len(out)
		for _, l := range out[from:to] {
			for _, w := range words {
				out = append(out, append(slices.Clone(l), w))
			}
		}
		from = to
	}
	return out
}

// ordersOf are all orders of the words.
func ordersOf(words []string) [][]string {
	if len(words) == 0 {
		return [][]string{nil}
	}
	var out [][]string
	for i, first := range words {
		for _, l := range ordersOf(slices.Delete(slices.Clone(words), i, i+1)) {
			out = append(out, append([]string{first}, l...))
		}
	}
	return out
}

// colNamed is a column of its own kind for each of some names: b, i, s and n
// have Not and no default, m has both, d and e have a default alone (e a null
// one), all others neither.
func colNamed(name string) impl.Col {
	c := impl.Col{Name: name, Ty: impl.TyInt}
	switch name {
	case "b":
		c.Ty, c.Not = impl.TyBool, true
	case "i", "n":
		c.Not = true
	case "s":
		c.Ty, c.Not = impl.TyText, true
	case "m":
		c.Not, c.Has, c.Def = true, true, intVal(9)
	case "d":
		c.Ty, c.Has, c.Def = impl.TyText, true, textVal("def")
	case "e":
		c.Ty, c.Has = impl.TyBool, true
	case "x":
		c.Ty = impl.TyText
	}
	return c
}

func tableNamed(cols string, keys string) impl.Table {
	x := impl.Table{Name: "t", Keys: roomy(strings.Fields(keys))}
	for _, name := range strings.Fields(cols) {
		x.Cols = append(x.Cols, colNamed(name))
	}
	x.Cols = roomy(x.Cols)
	return x
}

func driftedTables() []impl.Table {
	return []impl.Table{
		tableNamed("i", "i"), tableNamed("i x", "i"), tableNamed("x i", "i"), tableNamed("i s", "i s"), tableNamed("s i", "s i"), tableNamed("s x i", "s i"),
		tableNamed("i m", "i"), tableNamed("m i", "m i"), tableNamed("m i", "m"), tableNamed("i n", "i"), tableNamed("n x i", "i"), tableNamed("d i", "i"),
		tableNamed("e i x", "i"), tableNamed("x m i d s e", "i"), tableNamed("x m i d s e", "i s"), tableNamed("b i s", "b i s"), tableNamed("s i b", "i"), tableNamed("d m e x y z n i", "i"),
	}
}

func TestP15DriftOfSomeNames(t *testing.T) {
	x := tableNamed("x m i d s e", "i s")
	for _, c := range []struct {
		cols, keys string
		want       int
	}{
		{"x m i d s e", "i s", 0}, {"x m i d s e", "s i", 0}, {"i s", "i s", 0}, {"s i", "s i", 0}, {"s x i", "i s", 0}, {"e s d i m x", "s i", 0}, {"i s m", "i s", 0},
		{"", "", 12}, {"i s", "", 12}, {"i s", "i", 12}, {"i s", "s", 12}, {"i s x", "i s x", 12}, {"i s m", "i m", 12}, {"x", "", 12}, {"i s x", "x", 12},
		{"i", "", 12}, {"x", "x", 12}, {"i", "i", 12}, {"", "i s", 1}, {"i", "i s", 1}, {"x", "i s", 1}, {"i s", "i i", 1}, {"i s", "i s s", 1},
		{"i s i", "i s", 1}, {"i s x x", "i s", 1}, {"x x", "", 1}, {"i s", "i z", 1}, {"i s", "i s z", 1}, {"i s", "i s x", 1}, {"i s", "z", 1},
		{"i s z", "i s", 11}, {"z", "", 11}, {"z", "z", 11}, {"i s z", "i", 11}, {"i s z", "i z", 11}, {"z i s", "z", 11}, {"x z", "x", 11},
		{"i s z z", "i s", 1}, {"z", "z z", 1}, {"z", "i s", 1}, {"i s I", "i s", 11}, {"i s abcdefghi", "i s", 11},
	} {
		sayDrift(t, c.cols, c.keys, x, c.want)
	}
	sayDrift(t, "i", "i", tableNamed("i n", "i"), 13)
	sayDrift(t, "i n", "i", tableNamed("i n", "i"), 0)
	sayDrift(t, "i", "", tableNamed("i n", "i"), 12)
	sayDrift(t, "i z", "i", tableNamed("i n", "i"), 11)
	sayDrift(t, "", "", tableNamed("i n", "i"), 12)
	sayDrift(t, "n", "n", tableNamed("i n", "i"), 12)
	sayDrift(t, "i", "i", tableNamed("i m e d x", "i"), 0)
	sayDrift(t, "m", "m", tableNamed("i m", "m"), 13)
	sayDrift(t, "", "", impl.Table{}, 1)
}

func TestP15DriftOfAllShortLists(t *testing.T) {
	seen := map[int]int{}
	keys := allLists([]string{"i", "s", "m", "x", "q"}, 2)
	for _, x := range driftedTables() {
		for _, c := range allLists([]string{"i", "s", "m", "n", "x", "q"}, 4) {
			for _, k := range keys {
				want := driftIn(c, k, x)
				seen[want]++
				if got := impl.Drift(c, k, x); got != want {
					t.Fatalf("Drift(%v, %v, %+v) is %d, not %d", c, k, x, got, want)
				}
			}
		}
	}
	saySeen(t, seen, 0, 1, 11, 12, 13)
}

func TestP15DriftInAnyOrder(t *testing.T) {
	x := tableNamed("b m i x s", "b i s")
	for _, cols := range ordersOf([]string{"b", "i", "x", "s"}) {
		for _, keys := range ordersOf([]string{"b", "i", "s"}) {
			sayDrift(t, strings.Join(cols, " "), strings.Join(keys, " "), x, 0)
			sayDrift(t, strings.Join(cols, " "), strings.Join(keys[1:], " "), x, 12)
			sayDrift(t, strings.Join(cols, " "), strings.Join(keys[1:], " ")+" x", x, 12)
			sayDrift(t, strings.Join(cols, " "), strings.Join(keys, " ")+" "+keys[0], x, 1)
			sayDrift(t, strings.Join(cols, " ")+" "+cols[2], strings.Join(keys, " "), x, 1)
			sayDrift(t, strings.Join(cols, " ")+" y", strings.Join(keys, " "), x, 11)
		}
	}
}

func TestP15DriftOfManyNames(t *testing.T) {
	wide := tableOf("t", "k "+namesOf("x", impl.MaxCols-1), "k")
	sayDrift(t, "k "+namesOf("x", impl.MaxCols-1), "k", wide, 0)
	sayDrift(t, "k "+namesOf("x", impl.MaxCols), "k", wide, 11)
	sayDrift(t, "k "+strings.Repeat("x ", 300), "k", wide, 1)
	many := ""
	for i := range 300 {
		many += " w" + strconv.Itoa(i)
	}
	sayDrift(t, "k"+many, "k", wide, 11)
	sayDrift(t, "k"+many, "k"+many, wide, 11)
	sayDrift(t, "k"+many+" w299", "k", wide, 1)
	sayDrift(t, "k"+many, "k"+many+" w0", wide, 1)
	sayDrift(t, "k", "k"+many, wide, 1)
}

func TestP15DriftOfAWrongTable(t *testing.T) {
	for _, x := range wrongTables() {
		var cols []string
		for _, c := range x.Cols {
			cols = append(cols, c.Name)
		}
		for _, names := range [][2][]string{{cols, x.Keys}, {nil, nil}, {{"k"}, {"k"}}, {{"zz"}, nil}, {{"k"}, nil}, {x.Keys, x.Keys}} {
			if got := impl.Drift(names[0], names[1], x); got != 1 {
				t.Errorf("Drift(%v, %v, %+v) is %d", names[0], names[1], x, got)
			}
		}
	}
	for _, x := range rightTables() {
		cols, keys := namesIn(dbOf(catOf(x), nil), x.Name)
		if got := impl.Drift(cols, keys, x); got != 0 {
			t.Errorf("Drift of its own names in %+v is %d", x, got)
		}
	}
}

func TestP15MapRowOfSomeNames(t *testing.T) {
	x := tableNamed("x m i d s e", "i s")
	for _, c := range []struct {
		cols, vals, want string
		code             int
	}{
		{"i s", "5 'a'", "null 9 5 'def' 'a' null", 0}, {"s i", "'a' 5", "null 9 5 'def' 'a' null", 0}, {"x m i d s e", "'x' 1 5 'y' 'a' true", "'x' 1 5 'y' 'a' true", 0},
		{"e s d i m x", "true 'a' 'y' 5 1 'x'", "'x' 1 5 'y' 'a' true", 0}, {"i d s", "5 null 'a'", "null 9 5 null 'a' null", 0}, {"e i s x", "false 0 '' null", "null 9 0 'def' '' false", 0},
		{"", "", "", 14}, {"i", "5", "", 14}, {"x", "'x'", "", 14}, {"i s", "5", "", 1}, {"i s", "5 'a' null", "", 1}, {"i s", "", "", 1}, {"", "5", "", 1}, {"", "null", "", 1},
		{"i s i", "5 'a' 5", "", 1}, {"i s x x", "5 'a' null null", "", 1}, {"z z", "null null", "", 1}, {"i s z", "5 'a' null", "", 11}, {"z", "null", "", 11}, {"z", "", "", 1}, {"i s z", "5 'a'", "", 1},
		{"i s z", "null 5 5", "", 11}, {"i s I", "5 'a' null", "", 11}, {"i s m", "5 'a' null", "", 14}, {"i s", "null 'a'", "", 14}, {"i s", "5 null", "", 14}, {"i s", "'a' 5", "", 14},
		{"i s x", "5 'a' 5", "", 14}, {"i s e", "5 'a' 1", "", 14}, {"i s e", "5 'a' 'true'", "", 14}, {"i s", "true 'a'", "", 14}, {"i s i", "5 'a'", "", 1}, {"z z", "null", "", 1},
	} {
		sayMapRow(t, roomy(strings.Fields(c.cols)), x, valsOfText(t, c.vals), rowOf(valsOfText(t, c.want)...), c.code)
	}
	sayMapRow(t, nil, tableNamed("m", "m"), nil, rowOf(intVal(9)), 0)
	sayMapRow(t, []string{}, tableNamed("d m e x y", "m"), []impl.Val{}, rowOf(textVal("def"), intVal(9), impl.Val{}, impl.Val{}, impl.Val{}), 0)
	sayMapRow(t, nil, tableNamed("i", "i"), nil, impl.Row{}, 14)
	sayMapRow(t, nil, impl.Table{}, nil, impl.Row{}, 1)
}

func TestP8ARowByNames(t *testing.T) {
	vals := map[string]impl.Val{"x": textVal("x"), "m": intVal(1), "i": intVal(2), "d": textVal("d"), "s": textVal("s"), "n": intVal(3)}
	for _, names := range ordersOf([]string{"x", "m", "i", "d", "s"}) {
		x := tableNamed(strings.Join(names, " ")+" e y", "i")
		for _, cols := range append(ordersOf([]string{"i", "x", "s", "m", "d"}), ordersOf([]string{"i", "s", "d"})...) {
			var l []impl.Val
			for _, c := range cols {
				l = append(l, vals[c])
			}
			r, code := impl.MapRow(cols, x, roomy(l))
			if code != 0 || !impl.RowOk(x, r) {
				t.Fatalf("MapRow(%v, %+v, %+v) is %+v, %d", cols, x, l, r, code)
			}
			for i, c := range x.Cols {
				want := c.Def
				if slices.Contains(cols, c.Name) {
					want = vals[c.Name]
				}
				if r.Vals[i] != want {
					t.Fatalf("MapRow(%v, %+v, %+v) is %+v: %s isn't %+v", cols, x, l, r, c.Name, want)
				}
			}
		}
	}
}

func TestP15MapRowOfAllShortLists(t *testing.T) {
	seen := map[int]int{}
	kinds := [][]impl.Val{valsOf(intVal(4), 4), valsOf(textVal("a"), 4), valsOf(impl.Val{}, 4), {intVal(1), textVal("b"), intVal(2), textVal("c")}, {textVal("b"), intVal(1), boolVal(1), intVal(2)}}
	for _, x := range driftedTables() {
		for _, cols := range allLists([]string{"i", "s", "m", "n", "x", "q"}, 4) {
			for _, vals := range kinds {
				for n := range len(vals) + 1 {
					if n > len(cols)+1 {
						break
					}
					want, code := rowByNames(cols, x, vals[:n], nil)
					seen[code]++
					if got, c := impl.MapRow(cols, x, vals[:n]); c != code || !impl.SameRows([]impl.Row{got}, []impl.Row{want}) {
						t.Fatalf("MapRow(%v, %+v, %+v) is %+v, %d; not %+v, %d", cols, x, vals[:n], got, c, want, code)
					}
				}
			}
		}
	}
	saySeen(t, seen, 0, 1, 11, 14)
}

func TestP15MapRowOfEachValue(t *testing.T) {
	for _, x := range append(driftedTables(), rightTables()...) {
		cols, _ := namesIn(dbOf(catOf(x), nil), x.Name)
		slices.Reverse(cols)
		right := fillOf(x).Vals
		slices.Reverse(right)
		for i := range cols {
			for _, v := range append(risingVals(), wrongVals()...) {
				vals := keyOf(right...)
				vals[i] = v
				want, code := rowByNames(cols, x, vals, nil)
				c := x.Cols[impl.ColAt(x, cols[i])]
				if fits := impl.ValOk(v) && (v.Ty == c.Ty || v.Ty == impl.TyNull && !c.Not); fits != (code == 0) || !fits && code != 14 {
					t.Errorf("the value %+v in %+v should not tell %d", v, c, code)
				}
				sayMapRow(t, cols, x, vals, want, code)
			}
		}
		sayMapRow(t, cols, x, right[1:], impl.Row{}, 1)
		sayMapRow(t, cols, x, append(keyOf(right...), impl.Val{}), impl.Row{}, 1)
	}
}

func TestP15MapRowOfManyNamesOrAWrongTable(t *testing.T) {
	var many []string
	for i := range 300 {
		many = append(many, "w"+strconv.Itoa(i))
	}
	sayMapRow(t, many, plainTable(), valsOf(intVal(1), 300), impl.Row{}, 11)
	sayMapRow(t, many, plainTable(), valsOf(intVal(1), 299), impl.Row{}, 1)
	sayMapRow(t, slices.Repeat([]string{"k"}, 300), plainTable(), valsOf(intVal(1), 300), impl.Row{}, 1)
	for _, x := range wrongTables() {
		var cols []string
		for _, c := range x.Cols {
			cols = append(cols, c.Name)
		}
		sayMapRow(t, cols, x, fillOf(x).Vals, impl.Row{}, 1)
		sayMapRow(t, nil, x, nil, impl.Row{}, 1)
		sayMapRow(t, []string{"zz"}, x, intKey(1), impl.Row{}, 1)
		sayMapRow(t, []string{"k"}, x, intKey(1), impl.Row{}, 1)
	}
}

func TestP15MapKeyOfSomeNames(t *testing.T) {
	x := tableNamed("x m i d s e", "i s")
	for _, c := range []struct {
		keys, vals, want string
		code             int
	}{
		{"i s", "5 'a'", "5 'a'", 0}, {"s i", "'a' 5", "5 'a'", 0}, {"i s", "0 ''", "0 ''", 0}, {"", "", "", 12}, {"i", "5", "", 12}, {"s", "'a'", "", 12}, {"i m", "5 5", "", 12},
		{"i s x", "5 'a' null", "", 12}, {"i z", "5 'a'", "", 12}, {"z", "5", "", 12}, {"i i", "5 5", "", 1}, {"i s i", "5 'a' 5", "", 1}, {"z z", "5 5", "", 1}, {"i s", "5", "", 1},
		{"i s", "5 'a' 5", "", 1}, {"i s", "", "", 1}, {"", "5", "", 1}, {"z", "", "", 1}, {"i m", "5", "", 1}, {"i s", "'a' 5", "", 14}, {"s i", "5 'a'", "", 14}, {"i s", "null 'a'", "", 14},
		{"i s", "5 null", "", 14}, {"i s", "true 'a'", "", 14}, {"i s", "5 5", "", 14}, {"i z", "null null", "", 12}, {"I s", "5 'a'", "", 12}, {"i s s", "5 'a'", "", 1},
	} {
		sayMapKey(t, roomy(strings.Fields(c.keys)), x, valsOfText(t, c.vals), valsOfText(t, c.want), c.code)
	}
	sayMapKey(t, nil, impl.Table{}, nil, nil, 1)
	sayMapKey(t, []string{}, x, []impl.Val{}, nil, 12)
}

func TestP8AKeyByNames(t *testing.T) {
	vals := map[string]impl.Val{"ka": intVal(1), "kb": intVal(2), "kc": intVal(3), "kd": intVal(4)}
	names := []string{"ka", "kb", "kc", "kd"}
	for _, order := range ordersOf(names) {
		x := tableOf("t", "x "+strings.Join(order, " ")+" y", strings.Join(order, " "))
		for _, keys := range ordersOf(names) {
			var l, want []impl.Val
			for i := range keys {
				l, want = append(l, vals[keys[i]]), append(want, vals[order[i]])
			}
			sayMapKey(t, keys, x, roomy(l), want, 0)
		}
	}
}

func TestP15MapKeyOfAllShortLists(t *testing.T) {
	seen := map[int]int{}
	kinds := [][]impl.Val{valsOf(intVal(4), 3), valsOf(textVal("a"), 3), valsOf(impl.Val{}, 3), {intVal(1), textVal("b"), boolVal(0)}, {textVal("b"), intVal(1), boolVal(1)}, {boolVal(0), intVal(1), textVal("b")}}
	for _, x := range driftedTables() {
		for _, keys := range allLists([]string{"i", "s", "m", "b", "q"}, 3) {
			for _, vals := range kinds {
				for n := range len(vals) + 1 {
					want, code := keyByNames(keys, x, vals[:n])
					seen[code]++
					sayMapKey(t, keys, x, vals[:n], want, code)
				}
			}
		}
	}
	saySeen(t, seen, 0, 1, 12, 14)
}

func TestP15MapKeyOfEachValueOrAWrongTable(t *testing.T) {
	for _, x := range append(driftedTables(), rightTables()...) {
		keys, right := slices.Clone(x.Keys), keyFillOf(x)
		slices.Reverse(keys)
		slices.Reverse(right)
		for i, k := range keys {
			for _, v := range append(risingVals(), wrongVals()...) {
				vals := keyOf(right...)
				vals[i] = v
				want, code := keyByNames(keys, x, vals)
				if fits := impl.ValOk(v) && v.Ty == x.Cols[impl.ColAt(x, k)].Ty; fits != (code == 0) || !fits && code != 14 {
					t.Errorf("the value %+v of the key %s should not tell %d", v, k, code)
				}
				sayMapKey(t, keys, x, vals, want, code)
			}
		}
	}
	for _, x := range wrongTables() {
		sayMapKey(t, x.Keys, x, keyFillOf(x), nil, 1)
		sayMapKey(t, nil, x, nil, nil, 1)
		sayMapKey(t, []string{"k"}, x, intKey(1), nil, 1)
		sayMapKey(t, []string{"zz"}, x, intKey(1), nil, 1)
	}
}

// farStore has t with its columns in another order than "i s x" and more of
// them, its Keys the other way round.
func farStore(t *testing.T, rows ...string) impl.Db {
	t.Helper()
	lines := []string{
		"create a ( k int not ) key k", "insert a 7",
		"create t ( d text ='def' ) ( s text not ) ( m int not =9 ) ( x text ) ( i int not ) ( y int ) key s i",
	}
	for _, r := range rows {
		lines = append(lines, "insert t "+r)
	}
	return storeOf(t, append(lines, "create u ( x text ) ( s text not ) ( i int not ) ( n int not ) key s i")...)
}

func TestP15MapStmtOfSomeStatements(t *testing.T) {
	d := farStore(t, "'mine' 'a' 4 'x' 5 6", "null 'b' 0 null 5 null", "'def' 'b' 9 'z' 6 8")
	for _, c := range []struct {
		stmt, cols, keys, want string
		code                   int
	}{
		{"insert t 5 'c' 'q'", "i s x", "i s", "insert t 'def' 'c' 9 'q' 5 null", 0}, {"insert t null 'c' 5", "x s i", "s i", "insert t 'def' 'c' 9 null 5 null", 0},
		{"insert t 5 'a' 'q'", "i s x", "i s", "insert t 'def' 'a' 9 'q' 5 null", 0}, {"insert t 1 'q' 'a' 5 'p' 2", "y x s i d m", "i s", "insert t 'p' 'a' 2 'q' 5 1", 0},
		{"update t 5 'a' to 5 'a' 'q'", "i s x", "i s", "update t 'a' 5 to 'mine' 'a' 4 'q' 5 6", 0}, {"update t 'a' 5 to 5 'a' 'q'", "i s x", "s i", "update t 'a' 5 to 'mine' 'a' 4 'q' 5 6", 0},
		{"update t 5 'b' to 7 'c' null", "i s x", "i s", "update t 'b' 5 to null 'c' 0 null 7 null", 0}, {"update t 5 'a' to 6 'b'", "i s", "i s", "update t 'a' 5 to 'mine' 'b' 4 'x' 6 6", 0},
		{"update t 6 'a' to 5 'b' 'q'", "i s x", "i s", "update t 'a' 6 to 'def' 'b' 9 'q' 5 null", 0}, {"update t 6 'b' to 'q' 6 'b' null 1", "x i s d y", "i s", "update t 'b' 6 to null 'b' 9 'q' 6 1", 0},
		{"delete t 5 'a'", "i s x", "i s", "delete t 'a' 5", 0}, {"delete t 'zz' 5", "i s", "s i", "delete t 'zz' 5", 0}, {"delete t 5 'a'", "y i s", "i s", "delete t 'a' 5", 0},
		{"clear t", "i s x", "i s", "clear t", 0}, {"clear t", "s i", "s i", "clear t", 0}, {"clear t", "", "", "", 12}, {"clear t", "i s", "i", "", 12}, {"clear t", "i s z", "i s", "", 11}, {"clear t", "i", "i s", "", 1},
		{"insert t 5 'c' 'q'", "i s z", "i s", "", 11}, {"insert t 5 'c' 'q'", "i s x", "i", "", 12}, {"insert t 5 'c' 'q'", "i s x", "i x", "", 12}, {"insert t 5 'c' 'q'", "i s s", "i s", "", 1},
		{"insert t 5 'c' 'q'", "i s", "i s", "", 1}, {"insert t 5", "i s", "i s", "", 1}, {"insert t 5 'c' 5", "i s x", "i s", "", 14}, {"insert t null 'c' 'q'", "i s x", "i s", "", 14},
		{"insert t 'c' 5", "i s", "i s", "", 14}, {"insert t 5 'c' null", "i s m", "i s", "", 14}, {"insert t 5 'c'", "i s z", "i s", "", 11}, {"insert t 5 'c' 5", "i s x", "s", "", 12},
		{"update t 5 to 5 'a' 'q'", "i s x", "i s", "", 1}, {"update t 'a' 5 to 5 'a' 'q'", "i s x", "i s", "", 14}, {"update t null 'a' to 5 'a' 'q'", "i s x", "i s", "", 14}, {"update t 'a' 5 to 5", "i s x", "i s", "", 14},
		{"update t 5 to 'a' 'a' 'q'", "i s x", "i s", "", 1}, {"update t 5 'a' to 5 'a'", "i s x", "i s", "", 1}, {"update t 5 'a' to 5 'a' 7", "i s x", "i s", "", 14}, {"update t 5 'a' to 5 null 'q'", "i s x", "i s", "", 14},
		{"update t 5 'a' to 5 'a' null", "i s m", "i s", "", 14}, {"update t 5 'a' to 5 'a' 'q'", "i s x", "i", "", 12}, {"update t 5 'a' to 5 'a' 'q'", "i s z", "i s", "", 11}, {"update t 5 'a' to 5 'a' 'q'", "i x", "i s", "", 1},
		{"delete t 5", "i s x", "i s", "", 1}, {"delete t 5 'a' 'q'", "i s x", "i s", "", 1}, {"delete t 'a' 5", "i s x", "i s", "", 14}, {"delete t 5 null", "i s x", "i s", "", 14}, {"delete t 5", "i s x", "i", "", 12}, {"delete t 5 'a'", "i s q", "i s", "", 11},
		{"insert z 5 'c' 'q'", "i s x", "i s", "", 10}, {"update z 5 to 5", "i", "i", "", 10}, {"delete z 5", "", "", "", 10}, {"clear z", "i i", "q", "", 10}, {"clear tt", "i s x", "i s", "", 10}, {"insert u 5 'c'", "i s", "i s", "", 13},
		{"update u 5 'c' to 5 'c'", "i s", "i s", "", 13}, {"delete u 5 'c'", "i s", "i s", "", 13}, {"clear u", "i s", "i s", "", 13}, {"clear u", "i s n", "i s", "clear u", 0}, {"insert u 5 'c' 0", "i s n", "i s", "insert u null 'c' 5 0", 0},
		{"drop t", "", "", "drop t", 0}, {"drop z", "", "", "drop z", 0}, {"drop t", "q q", "z z", "drop t", 0}, {"create z ( k int not ) key k", "", "", "create z ( k int not ) key k", 0}, {"create t ( k int not ) key k", "k", "k", "create t ( k int not ) key k", 0},
		{"out t none", "", "", "out t none", 0}, {"out t s", "i s", "i", "out t s", 0}, {"add z x int", "", "", "add z x int", 0}, {"name z x y", "", "", "name z x y", 0},
	} {
		var want impl.Stmt
		if c.code == 0 {
			want = stmtOf(t, c.want)
		}
		sayMapStmt(t, d, partOf(stmtOf(t, c.stmt), c.cols, c.keys), want, c.code)
	}
}

func TestP15MapStmtOfWrongStoresAndStatements(t *testing.T) {
	parts := func(s impl.Stmt) []impl.Part {
		return []impl.Part{partOf(s, "k x", "k"), partOf(s, "", ""), partOf(s, "x k", "k"), partOf(s, "q q", "q")}
	}
	for _, d := range wrongDbs() {
		for _, s := range []impl.Stmt{put(1), update("t", intKey(1), plainRow(1)), remove("b", intKey(0)), empty("b"), empty("none"), change(drop("b")), change(create(tableOf("zz", "k", "k"))), {}} {
			for _, p := range parts(s) {
				sayMapStmt(t, d, p, impl.Stmt{}, 1)
			}
		}
	}
	for _, d := range []impl.Db{{}, plainDb(3, 3), dbOf(catOf(plainTable()), evenRows(2))} {
		for _, s := range wrongStmts() {
			for _, p := range parts(s) {
				sayMapStmt(t, d, p, impl.Stmt{}, 1)
			}
		}
	}
}

func TestP15MapStmtOfAllChanges(t *testing.T) {
	for _, d := range []impl.Db{{}, plainDb(3), plainDb(1, 2, 3, 4, 5, 6), farStore(t)} {
		for _, x := range rightDdls() {
			for _, p := range []impl.Part{partOf(change(x), "", ""), partOf(change(x), "q q", "z"), partOf(change(x), "k x", "k")} {
				sayMapStmt(t, d, p, change(x), 0)
			}
		}
	}
}

// eachStmtByNames tells right statements with names that fit some of the stores.
func eachStmtByNames(tell func(impl.Db, impl.Part)) {
	stores := []impl.Db{
		{}, plainDb(3), plainDb(2, 3), dbOf(catOf(mixedTable(), plainTable()), mixedRows(), evenRows(2)),
		dbOf(catOf(tableOf("b", "x n k", "k"), mixedTable()), []impl.Row{rowOf(textVal("a"), textVal("b"), intVal(0))}, mixedRows()),
		dbOf(catOf(tableOf("b", "kn x k", "k")), []impl.Row{rowOf(intVal(3), textVal("b"), intVal(0))}),
	}
	names := [][2]string{{"k x", "k"}, {"x k", "k"}, {"k", "k"}, {"k x", "x"}, {"s i b n", "i s"}, {"i s", "s i"}, {"i s k", "i s"}, {"", ""}}
	for i, s := range rightStmts() {
		for _, d := range stores {
			for j, n := range names {
				if s.Kind != impl.StUpdate || (i+j)%3 == 0 {
					tell(d, partOf(s, n[0], n[1]))
				}
			}
		}
	}
}

func TestP15MapStmtOfAllStatements(t *testing.T) {
	seen := map[int]int{}
	eachStmtByNames(func(d impl.Db, p impl.Part) {
		want, code := stmtByNames(d, p)
		seen[code]++
		sayMapStmt(t, d, p, want, code)
	})
	saySeen(t, seen, 0, 1, 10, 11, 12, 13, 14)
}

// nearStmts go one after the other on a store with the table t, "i s x" with
// the key i s.
func nearStmts(t *testing.T) []impl.Stmt {
	t.Helper()
	var l []impl.Stmt
	for _, s := range []string{
		"insert t 1 'b' 'p'", "insert t 1 'a' null", "insert t 2 'a' 'q'", "insert t 0 'c' ''", "update t 1 'b' to 3 'a' 'z'", "update t 2 'a' to 2 'a' null", "insert t 2 'b' 'w'",
		"delete t 1 'a'", "update t 0 'c' to -5 'zz' 'v'", "update t 2 'b' to 1 'a' 'b'", "delete t 3 'a'", "insert t 3 'a' 'again'", "clear t", "insert t 9 'a' 'last'", "insert t 8 'b' 'more'", "update t 8 'b' to 8 'c' 'b'",
	} {
		l = append(l, stmtOf(t, s))
	}
	return l
}

// driftedFrom are tables that "i s x" with the key i s fits.
func driftedFrom() []impl.Table {
	l := []impl.Table{
		tableNamed("i s x", "i s"), tableNamed("m i d s e x y", "i s"), tableNamed("s m y d e i x", "s i"), tableNamed("x s d i", "s i"),
	}
	for _, names := range ordersOf([]string{"i", "s", "x", "m", "d"}) {
		keys := "i s"
		if slices.Index(names, "s") < slices.Index(names, "i") {
			keys = "s i"
		}
		l = append(l, tableNamed(strings.Join(names, " "), keys))
	}
	return l
}

// keepUp does each statement on near, and by names on far, and asks that far
// shows near behind each; touch may change what near doesn't know.
func keepUp(t *testing.T, near impl.Db, far impl.Db, l []impl.Stmt, touch func(impl.Db) impl.Db) {
	t.Helper()
	for _, s := range l {
		cols, keys := impl.NamesOf(near, s.Table)
		x, code := impl.MapStmt(far, impl.Part{Stmt: s, Cols: cols, Keys: keys})
		next, c := impl.Exec(far, x)
		told, also := impl.Exec(near, s)
		if code != 0 || c != 0 || also != 0 {
			t.Fatalf("%s tells %d, and done %d and %d", impl.StmtText(s), code, c, also)
		}
		near, far = told, touch(next)
		shown, ok := impl.Project(far, near)
		if !ok || !impl.SameDb(shown, near) {
			t.Fatalf("behind %s\n%s shows %v\n%s and not\n%s", impl.StmtText(s), impl.DbText(far), ok, impl.DbText(shown), impl.DbText(near))
		}
	}
}

// sameValsElsewhere sets all of the columns that "i s x" lacks in each row.
func sameValsElsewhere(d impl.Db) impl.Db {
	rows := impl.RowsOf(d, "t")
	for _, r := range rows {
		for i, c := range d.Cat.Tables[0].Cols {
			if !slices.Contains([]string{"i", "s", "x"}, c.Name) {
				r.Vals[i] = map[int]impl.Val{impl.TyBool: boolVal(1), impl.TyInt: intVal(77), impl.TyText: textVal("set")}[c.Ty]
			}
		}
	}
	return with(d, 0, rows)
}

func TestP8AStoreThatHasDriftedKeepsUpByNames(t *testing.T) {
	near := dbOf(catOf(tableNamed("i s x", "i s")), nil)
	for _, x := range driftedFrom() {
		far := dbOf(catOf(x), nil)
		keepUp(t, near, far, nearStmts(t), func(d impl.Db) impl.Db { return d })
		keepUp(t, near, far, nearStmts(t), sameValsElsewhere)
	}
}

func TestP8AnUpdateKeepsWhatIsNotTold(t *testing.T) {
	for _, x := range driftedFrom() {
		far := dbOf(catOf(x), nil)
		for _, s := range nearStmts(t)[:4] {
			m, _ := impl.MapStmt(far, impl.Part{Stmt: s, Cols: []string{"i", "s", "x"}, Keys: []string{"i", "s"}})
			far, _ = impl.Exec(far, m)
		}
		for _, r := range impl.RowsOf(far, "t") {
			for i, c := range x.Cols {
				if !slices.Contains([]string{"i", "s", "x"}, c.Name) && r.Vals[i] != c.Def {
					t.Errorf("an inserted row %+v of %+v hasn't the defaults", r, x)
				}
			}
		}
		far = sameValsElsewhere(far)
		m, _ := impl.MapStmt(far, impl.Part{Stmt: stmtOf(t, "update t 'b' 1 to 'new' 4 'aa'"), Cols: []string{"x", "i", "s"}, Keys: []string{"s", "i"}})
		for i, c := range x.Cols {
			want := map[string]impl.Val{"x": textVal("new"), "i": intVal(4), "s": textVal("aa"), "m": intVal(77), "y": intVal(77), "d": textVal("set"), "e": boolVal(1)}[c.Name]
			if m.Kind != impl.StUpdate || m.Row.Vals[i] != want {
				t.Errorf("the update in %+v is %+v: %s isn't %+v", x, m, c.Name, want)
			}
		}
	}
}

func TestP15ProjectOfSomeStores(t *testing.T) {
	d := farStore(t, "'mine' 'a' 4 'x' 5 6", "null 'b' 0 null 3 null", "'def' 'c' 9 'z' 4 8")
	for _, c := range []struct{ like, want []string }{
		{nil, nil},
		{[]string{"create a ( k int not ) key k"}, []string{"create a ( k int not ) key k", "insert a 7"}},
		{[]string{"create a ( k int not ) key k", "insert a 9", "insert a 10"}, []string{"create a ( k int not ) key k", "insert a 7"}},
		{[]string{"create u ( s text not ) ( i int not ) key i"}, []string{"create u ( s text not ) ( i int not ) key i"}},
		{[]string{"create t ( i int not ) ( s text not ) ( x text ) key i s"}, []string{"create t ( i int not ) ( s text not ) ( x text ) key i s", "insert t 3 'b' null", "insert t 4 'c' 'z'", "insert t 5 'a' 'x'"}},
		{[]string{"create t ( s text not ) ( i int not ) key s i"}, []string{"create t ( s text not ) ( i int not ) key s i", "insert t 'a' 5", "insert t 'b' 3", "insert t 'c' 4"}},
		{[]string{"create t ( i int not ) key i"}, []string{"create t ( i int not ) key i", "insert t 3", "insert t 4", "insert t 5"}},
		{[]string{"create t ( m int not ) key m"}, []string{"create t ( m int not ) key m", "insert t 0", "insert t 4", "insert t 9"}},
		{[]string{"create t ( m int not =-1 ) ( i int not =2 ) key m i", "insert t 4 4"}, []string{"create t ( m int not =-1 ) ( i int not =2 ) key m i", "insert t 0 3", "insert t 4 5", "insert t 9 4"}},
		{[]string{"create t ( i int not ) ( q int not ) ( r text not ='' ) ( v bool =true ) ( w int =null ) key i"}, []string{"create t ( i int not ) ( q int ) ( r text ) ( v bool ) ( w int ) key i", "insert t 3 null null null null", "insert t 4 null null null null", "insert t 5 null null null null"}},
		{[]string{"create t ( i int not ) ( d text =null ) ( y int =5 ) key i"}, []string{"create t ( i int not ) ( d text =null ) ( y int =5 ) key i", "insert t 3 null null", "insert t 4 'def' 8", "insert t 5 'mine' 6"}},
		{[]string{"create u ( i int not ) ( x int not ) ( z int ) key i"}, []string{"create u ( i int not ) ( x int not ) ( z int ) key i"}},
		{[]string{"create u ( i text not ='k' ) ( x int not =5 ) ( z int not =4 ) key i"}, []string{"create u ( i text not ='k' ) ( x int not =5 ) ( z int ) key i"}},
		{[]string{"create a ( k int not ) ( q bool not =false ) key k", "create t ( i int not ) key i"}, []string{"create a ( k int not ) ( q bool ) key k", "insert a 7 null", "create t ( i int not ) key i", "insert t 3", "insert t 4", "insert t 5"}},
		{[]string{"create a ( k int not ) key k", "create u ( i int not ) key i"}, []string{"create a ( k int not ) key k", "insert a 7", "create u ( i int not ) key i"}},
	} {
		sayProject(t, d, storeOf(t, c.like...), storeOf(t, c.want...))
	}
	for _, like := range []string{
		"create b ( k int not ) key k", "create tt ( i int not ) key i", "create a ( q int not ) key q", "create a ( k int not ) ( q int not ) key k q", "create u ( i int not ) ( q int not =4 ) key i q",
		"create a ( k text not ) key k", "create a ( k bool not ) key k", "create t ( i int not ) ( x text not ) key i", "create t ( i int not ) ( y int not =4 ) key i", "create t ( i int not ) ( d text not ='a' ) key i",
		"create t ( i int not ) ( x int ) key i", "create t ( i int not ) ( m bool not ) key i", "create t ( d text not ) key d", "create t ( y int not ) key y", "create t ( z int not =1 ) key z",
	} {
		sayNoProject(t, d, storeOf(t, like))
		sayNoProject(t, d, storeOf(t, append([]string{like}, "create z ( k int not ) key k")...))
	}
	twice := farStore(t, "'mine' 'a' 4 'x' 5 6", "null 'b' 4 null 5 null")
	for _, like := range []string{"create t ( i int not ) key i", "create t ( m int not ) ( s text not ) key m", "create t ( m int not ) ( i int not ) key m i"} {
		sayNoProject(t, twice, storeOf(t, like))
	}
	sayProject(t, twice, storeOf(t, "create t ( m int not ) ( s text not ) key m s"), storeOf(t, "create t ( m int not ) ( s text not ) key m s", "insert t 4 'a'", "insert t 4 'b'"))
	sayNoProject(t, impl.Db{}, d)
	sayProject(t, impl.Db{}, impl.Db{}, impl.Db{})
	sayProject(t, d, impl.Db{Cat: catOf(), Data: []impl.Rows{}}, impl.Db{})
}

// shownStores are right stores with some of the same names of tables.
func shownStores(t *testing.T) []impl.Db {
	l := append(rightDbs(), changedDbs()...)
	for _, x := range append(driftedTables(), driftedFrom()[:12]...) {
		l = append(l, dbOf(catOf(x), nil), dbOf(catOf(x), []impl.Row{fillOf(x)}))
	}
	return append(l, farStore(t), farStore(t, "'mine' 'a' 4 'x' 5 6", "null 'b' 0 null 3 null"), farStore(t, "'mine' 'a' 4 'x' 5 6", "null 'a' 4 null 6 null"))
}

func TestP8AStoreShowsItself(t *testing.T) {
	for _, d := range shownStores(t) {
		sayProject(t, d, d, d)
	}
}

func TestP15ProjectOfManyStores(t *testing.T) {
	shown, not := 0, 0
	for _, d := range shownStores(t) {
		for _, like := range shownStores(t) {
			if want, ok := projectIn(d, like); ok {
				shown++
				sayProject(t, d, like, want)
			} else {
				not++
				sayNoProject(t, d, like)
			}
		}
	}
	if shown < 500 || not < 500 {
		t.Errorf("%d are shown, %d aren't", shown, not)
	}
}

func TestP15ProjectOfWrongStores(t *testing.T) {
	for _, wrong := range wrongDbs() {
		for _, d := range []impl.Db{{}, plainDb(0), plainDb(1, 2, 3), dbOf(catOf(plainTable()), evenRows(2))} {
			sayNoProject(t, wrong, d)
			sayNoProject(t, d, wrong)
		}
		sayNoProject(t, wrong, wrong)
	}
}

// movedStore has three rows, whose order hangs on the key.
func movedStore(names []string, key string) impl.Db {
	d := dbOf(catOf(tableNamed(strings.Join(names, " "), key)), nil)
	for n := range 3 {
		vals := map[string]impl.Val{"i": intVal(n), "s": textVal(strconv.Itoa(5 - n)), "x": textVal("x" + strconv.Itoa(n)), "m": intVal((n + 1) % 3)}
		var r impl.Row
		for _, c := range names {
			r.Vals = append(r.Vals, vals[c])
		}
		d, _ = impl.Exec(d, insert("t", r))
	}
	return d
}

func TestP15ProjectOfColumnsMoved(t *testing.T) {
	orders := ordersOf([]string{"i", "s", "x", "m"})
	for _, names := range orders {
		for _, other := range orders {
			for _, key := range []string{"i", "s", "m"} {
				like := movedStore(other, key)
				sayProject(t, movedStore(names, "i"), like, like)
				if few := other[:3]; slices.Contains(few, key) {
					sayProject(t, movedStore(names, "m"), movedStore(few, key), movedStore(few, key))
				}
			}
		}
	}
}

func TestP15MappedRowsAreNewMemory(t *testing.T) {
	for _, own := range []string{"i s x", "x m i d s e", "i s"} {
		for n, told := range map[string]string{"i s": "5 'a'", "s i": "'a' 5"} {
			for _, call := range []func([]string, impl.Table, []impl.Val) ([]impl.Val, int){mapRowVals, impl.MapKey} {
				x, names, vals := tableNamed(own, "i s"), roomy(strings.Fields(n)), valsOfText(t, told)
				args := append(tableLists("t", x), listOf("names", names, "junk", showOf[string]))
				sayNewRows(t, "by the names "+n, append(args, valsList("vals", vals)...), func() ([]impl.Row, int) {
					one, code := call(names, x, vals)
					two, _ := call(names, x, vals)
					impl.Drift(names, names, x)
					return []impl.Row{{Vals: one}, {Vals: two}}, code
				})
			}
		}
	}
}

func mapRowVals(cols []string, x impl.Table, vals []impl.Val) ([]impl.Val, int) {
	r, code := impl.MapRow(cols, x, vals)
	return r.Vals, code
}

func TestP15MappedStatementsAreNewMemory(t *testing.T) {
	for _, s := range []string{
		"insert t 5 'c' 'q'", "update t 5 'a' to 5 'a' 'q'", "update t 6 'z' to 6 'z' 'q'", "delete t 5 'a'", "clear t", "drop t", "create z ( k int not ) ( x text ) key k", "add t n int =4", "name t x n",
	} {
		d := farStore(t, "'mine' 'a' 4 'x' 5 6", "null 'b' 0 null 5 null")
		p := partOf(stmtOf(t, s), "i s x", "i s")
		args := append(dbLists("d", d), partsLists("p", []impl.Part{p})...)
		var one, two impl.Stmt
		code := 0
		sayUnchanged(t, s, args, func() {
			one, code = impl.MapStmt(d, p)
			two, _ = impl.MapStmt(d, p)
		})
		if code != 0 || !same(one, two) {
			t.Errorf("%s is %+v, %d, and then %+v", s, one, code, two)
		}
		sayApart(t, s, slices.Concat(args, stmtLists("one", one), stmtLists("two", two)))
	}
}

func TestP15MappedStatementsOfSharedListsAreNewMemory(t *testing.T) {
	d := farStore(t, "'mine' 'a' 4 'x' 5 6")
	row := valsOfText(t, "5 'a' 'q'")
	names := roomy([]string{"i", "s", "x"})
	for _, p := range []impl.Part{
		{Stmt: update("t", row[:2], impl.Row{Vals: row}), Cols: names, Keys: names[:2]}, {Stmt: remove("t", row[:2]), Cols: names, Keys: names[:2]}, {Stmt: insert("t", impl.Row{Vals: row[:2]}), Cols: names[:2], Keys: names[:2]},
		{Stmt: update("a", d.Data[0].Rows[0].Vals, d.Data[0].Rows[0]), Cols: d.Cat.Tables[0].Keys, Keys: d.Cat.Tables[0].Keys},
	} {
		args := append(dbLists("d", d), partsLists("p", []impl.Part{p})...)
		var got impl.Stmt
		sayUnchanged(t, "shared lists", args, func() { got, _ = impl.MapStmt(d, p) })
		want, _ := stmtByNames(d, p)
		if !same(got, want) {
			t.Errorf("MapStmt of %+v is %+v, not %+v", p, got, want)
		}
		l := stmtLists("got", got)
		for i := range l {
			others := slices.Concat(args, l[:i], l[i+1:])
			sayUnchanged(t, "shared lists, writing into "+l[i].name, others, l[i].spoil)
		}
	}
}

func TestP15ProjectedStoresAreNewMemory(t *testing.T) {
	likes := func() []impl.Db {
		return []impl.Db{
			farStore(t, "'mine' 'a' 4 'x' 5 6"), storeOf(t, "create a ( k int not ) key k"), storeOf(t, "create t ( i int not ) ( q int not =4 ) ( x text ) key i", "insert t 9 9 null"),
			storeOf(t, "create a ( k int not ) key k", "create t ( i int not ) ( s text not ) key i s", "create u ( i int not ) key i"), {},
		}
	}
	for i := range likes() {
		d, like := farStore(t, "'mine' 'a' 4 'x' 5 6", "null 'b' 0 null 3 null"), likes()[i]
		args := append(dbLists("d", d), dbLists("like", like)...)
		var one, two impl.Db
		ok := false
		sayUnchanged(t, "Project", args, func() {
			one, ok = impl.Project(d, like)
			two, _ = impl.Project(d, like)
		})
		if !ok || !same(one, two) {
			t.Errorf("Project is %+v, %v, and then %+v", one, ok, two)
		}
		sayApart(t, "Project", slices.Concat(args, dbLists("one", one), dbLists("two", two)))
	}
	for i := range rightDbs()[:10] {
		d := rightDbs()[i]
		args := dbLists("d", d)
		var got impl.Db
		sayUnchanged(t, "Project of itself", args, func() { got, _ = impl.Project(d, d) })
		sayNoneShared(t, "Project of itself", args, dbLists("got", got))
	}
	x := plainTable()
	other := x
	other.Name = "u"
	shared := dbOf(catOf(x, other), evenRows(2), nil)
	shared.Data[1] = shared.Data[0]
	args := dbLists("d", shared)
	got, _ := impl.Project(shared, shared)
	sayNoneShared(t, "Project of shared tables", args, dbLists("got", got))
}

func TestP15ArgumentsOfNamesStay(t *testing.T) {
	for _, x := range append(wrongTables(), driftedTables()...) {
		vals, names := valsOf(intVal(3), 2), roomy([]string{"s", "i"})
		sayUnchanged(t, "a table", slices.Concat(tableLists("t", x), valsList("vals", vals), namesLists("names", names, x.Keys)), func() {
			impl.Drift(names, names, x)
			impl.Drift(names, x.Keys, x)
			impl.MapRow(names, x, vals)
			impl.MapRow(names[:1], x, vals)
			impl.MapKey(names, x, vals)
			impl.MapKey(x.Keys, x, vals)
		})
	}
	for i, d := range append(wrongDbs()[:60], shownStores(t)...) {
		other := farStore(t, "'mine' 'a' 4 'x' 5 6", "null 'b' 4 null 5 null")
		for _, s := range []impl.Stmt{put(1), update("t", valsOf(intVal(5), 2), plainRow(1)), remove("t", intKey(1)), empty("t"), change(drop("t")), {Kind: 9, Key: intKey(1)}} {
			p := partOf(s, "s i", "i s")
			sayUnchanged(t, "store "+strconv.Itoa(i), slices.Concat(dbLists("d", d), dbLists("other", other), partsLists("p", []impl.Part{p})), func() {
				impl.MapStmt(d, p)
				impl.MapStmt(other, p)
				impl.Project(d, other)
				impl.Project(other, d)
			})
		}
	}
}
