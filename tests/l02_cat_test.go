package tests

import (
	"math"
	"strconv"
	"strings"
	"testing"

	"loop.example/g00462/impl"
)

func keyCol(name string) impl.Col  { return impl.Col{Name: name, Ty: impl.TyInt, Not: true} }
func freeCol(name string) impl.Col { return impl.Col{Name: name, Ty: impl.TyText} }

func defCol(name string, not bool, def impl.Val) impl.Col {
	return impl.Col{Name: name, Ty: impl.TyInt, Not: not, Has: true, Def: def}
}

// tableOf has a key column for each name that begins with k, a free one for each other.
func tableOf(name string, cols string, keys string) impl.Table {
	t := impl.Table{Name: name, Keys: roomy(strings.Fields(keys))}
	for _, c := range strings.Fields(cols) {
		if c[0] == 'k' {
			t.Cols = append(t.Cols, keyCol(c))
		} else {
			t.Cols = append(t.Cols, freeCol(c))
		}
	}
	t.Cols = roomy(t.Cols)
	return t
}

func catOf(tables ...impl.Table) impl.Cat { return impl.Cat{Tables: roomy(tables)} }

// smallCat is a catalog of so many tables named b, d, f, ..
func smallCat(n int) impl.Cat {
	var l []impl.Table
	for i := range n {
		l = append(l, tableOf(string(rune('b'+2*i)), "ka x kb y", "ka kb"))
	}
	return catOf(l...)
}

func namesOf(first string, n int) string {
	s := first
	for i := 1; i < n; i++ {
		s += " c" + string(rune('a'+i))
	}
	return s
}

func create(t impl.Table) impl.Ddl {
	return impl.Ddl{Kind: impl.DdlCreate, Table: t.Name, Cols: roomy(t.Cols), Keys: roomy(t.Keys)}
}

func drop(table string) impl.Ddl { return impl.Ddl{Kind: impl.DdlDrop, Table: table} }

func add(table string, c impl.Col) impl.Ddl {
	return impl.Ddl{Kind: impl.DdlAdd, Table: table, Cols: roomy([]impl.Col{c})}
}

func outOf(table string, name string) impl.Ddl {
	return impl.Ddl{Kind: impl.DdlOut, Table: table, Name: name}
}

func rename(table string, name string, to string) impl.Ddl {
	return impl.Ddl{Kind: impl.DdlName, Table: table, Name: name, To: to}
}

func wrongWords() []string {
	return []string{"", "A", "aB", "a1", "a b", " a", "a ", "abcdefghi", "a\n", "\xc3\xa9"}
}

func rightCols() []impl.Col {
	null := impl.Val{}
	return []impl.Col{
		{Name: "a", Ty: impl.TyBool}, {Name: "abcdefgh", Ty: impl.TyInt}, {Name: "z", Ty: impl.TyText},
		{Name: "a", Ty: impl.TyBool, Not: true}, keyCol("k"), {Name: "a", Ty: impl.TyText, Not: true},
		defCol("a", false, null), defCol("a", false, intVal(0)), defCol("a", false, intVal(-impl.MaxNum)),
		defCol("a", true, intVal(0)), defCol("a", true, intVal(impl.MaxNum)),
		{Name: "a", Ty: impl.TyBool, Has: true}, {Name: "a", Ty: impl.TyBool, Not: true, Has: true, Def: boolVal(0)},
		{Name: "a", Ty: impl.TyText, Has: true}, {Name: "a", Ty: impl.TyText, Not: true, Has: true, Def: textVal("")},
		{Name: "a", Ty: impl.TyText, Has: true, Def: textVal(strings.Repeat("\xff", impl.MaxStr))},
	}
}

func wrongCols() []impl.Col {
	l := []impl.Col{
		{}, {Name: "a"}, {Name: "a", Ty: impl.TyNull, Has: true}, {Name: "a", Ty: 4}, {Name: "a", Ty: -1},
		{Name: "a", Ty: math.MaxInt}, {Name: "a", Ty: math.MinInt}, {Name: "a", Ty: 4, Has: true, Def: impl.Val{Ty: 4}},
		defCol("a", true, impl.Val{}), {Name: "a", Ty: impl.TyText, Not: true, Has: true},
		defCol("a", false, boolVal(1)), defCol("a", false, textVal("1")), defCol("a", true, boolVal(1)),
		{Name: "a", Ty: impl.TyBool, Has: true, Def: intVal(1)}, {Name: "a", Ty: impl.TyText, Has: true, Def: intVal(1)},
		{Name: "a", Ty: impl.TyInt, Def: intVal(1)}, {Name: "a", Ty: impl.TyInt, Not: true, Def: intVal(0)},
		{Name: "a", Ty: impl.TyInt, Def: impl.Val{N: 1}}, {Name: "a", Ty: impl.TyInt, Def: textVal("")},
	}
	for _, v := range wrongVals() {
		l = append(l, impl.Col{Name: "a", Ty: max(v.Ty, impl.TyBool), Has: true, Def: v})
		l = append(l, impl.Col{Name: "a", Ty: impl.TyText, Def: v})
	}
	for _, w := range wrongWords() {
		l = append(l, impl.Col{Name: w, Ty: impl.TyInt})
	}
	return l
}

func rightTables() []impl.Table {
	return []impl.Table{
		tableOf("t", "k", "k"), tableOf("abcdefgh", "k", "k"), tableOf("t", "x k", "k"), tableOf("t", "k x", "k"),
		tableOf("t", "ka kb kc", "ka"), tableOf("t", "ka kb kc", "kb"), tableOf("t", "ka kb kc", "kc"),
		tableOf("t", "ka kb kc", "ka kb"), tableOf("t", "ka kb kc", "ka kc"), tableOf("t", "kc kb ka", "kc kb ka"),
		tableOf("t", namesOf("k", impl.MaxCols), "k"), tableOf("t", "ka kb kc kd ke kf kg kh", "ka kb kc kd ke kf kg kh"),
		tableOf("k", "k", "k"), tableOf("t", "t k", "k"),
		{Name: "t", Cols: []impl.Col{defCol("a", true, intVal(1))}, Keys: []string{"a"}},
		{Name: "t", Cols: []impl.Col{keyCol("a"), defCol("b", false, impl.Val{})}, Keys: []string{"a"}},
	}
}

func wrongTables() []impl.Table {
	l := []impl.Table{
		{}, {Name: "t"}, {Name: "t", Keys: []string{"k"}}, tableOf("t", "k", ""), tableOf("t", "k x", "x"),
		tableOf("t", "k", "z"), tableOf("t", "k", "k z"), tableOf("t", "ka kb", "kb ka"), tableOf("t", "ka kb kc", "ka kc kb"),
		tableOf("t", "ka kb", "ka ka"), tableOf("t", "ka kb", "ka kb kb"), tableOf("t", "ka kb", "ka kb ka"),
		tableOf("t", "k x x", "k"), tableOf("t", "k x k", "k"), tableOf("t", "k k", "k k"), tableOf("t", "k k", "k"),
		tableOf("t", namesOf("k", impl.MaxCols+1), "k"), tableOf("t", namesOf("k", 20), "k"),
		tableOf("t", "k "+strings.Repeat("x ", 300), "k"), tableOf("t", "ka kb x", "ka kb x"),
		{Name: "t", Cols: []impl.Col{keyCol("a")}, Keys: []string{""}},
		{Name: "t", Cols: []impl.Col{keyCol("a"), keyCol("a")}, Keys: []string{"a"}},
		{Name: "t", Cols: []impl.Col{freeCol("a"), keyCol("a")}, Keys: []string{"a"}},
		{Name: "t", Cols: []impl.Col{keyCol("")}, Keys: []string{""}},
		{Name: "t", Cols: []impl.Col{defCol("a", false, intVal(1))}, Keys: []string{"a"}},
	}
	for _, w := range wrongWords() {
		l = append(l, tableOf(w, "k x", "k"))
	}
	for _, c := range wrongCols() {
		l = append(l, impl.Table{Name: "t", Cols: []impl.Col{keyCol("k"), c}, Keys: []string{"k"}})
		l = append(l, impl.Table{Name: "t", Cols: []impl.Col{c, keyCol("k")}, Keys: []string{"k"}})
	}
	return l
}

func wrongCats() []impl.Cat {
	one := tableOf("m", "k", "k")
	l := []impl.Cat{
		smallCat(impl.MaxTables + 1), smallCat(12), catOf(one, one), catOf(tableOf("n", "k", "k"), one),
		catOf(tableOf("ma", "k", "k"), one), catOf(tableOf("a", "k", "k"), one, tableOf("b", "k", "k")),
		catOf(tableOf("a", "k", "k"), one, one),
	}
	for _, t := range wrongTables() {
		l = append(l, catOf(t), catOf(tableOf("a", "k", "k"), t), catOf(t, tableOf("z", "k", "k")))
	}
	return l
}

func rightCats() []impl.Cat {
	l := []impl.Cat{{}, catOf(), catOf(tableOf("a", "k", "k"), tableOf("ab", "k", "k"), tableOf("b", "k", "k"))}
	for n := 1; n <= impl.MaxTables; n++ {
		l = append(l, smallCat(n))
	}
	for _, t := range rightTables() {
		l = append(l, catOf(t))
	}
	return l
}

func rightDdls() []impl.Ddl {
	var l []impl.Ddl
	for _, t := range rightTables() {
		l = append(l, create(t))
	}
	for _, name := range []string{"a", "b", "c", "d", "l", "m", "t", "z", "abcdefgh"} {
		l = append(l, create(tableOf(name, "x k", "k")), drop(name))
		for _, c := range []string{"a", "x", "k", "ka", "kb", "z", "ch"} {
			l = append(l, add(name, freeCol(c)), outOf(name, c))
			for _, to := range []string{"x", "y", "k", "kb", "n"} {
				l = append(l, rename(name, c, to))
			}
		}
	}
	for _, c := range rightCols() {
		if c.Has || !c.Not {
			l = append(l, add("b", c), add("t", c))
		}
	}
	return l
}

func wrongDdls() []impl.Ddl {
	l := []impl.Ddl{{}, {Table: "t"}, add("t", keyCol("n")), add("t", impl.Col{Name: "n", Ty: impl.TyText, Not: true})}
	for _, kind := range []int{0, -1, 6, 7, math.MaxInt, math.MinInt} {
		for _, d := range []impl.Ddl{create(tableOf("t", "k", "k")), drop("t"), add("t", freeCol("n")), outOf("t", "x"), rename("t", "x", "y")} {
			d.Kind = kind
			l = append(l, d)
		}
	}
	for _, t := range wrongTables() {
		l = append(l, create(t))
	}
	for _, c := range wrongCols() {
		l = append(l, add("t", c))
	}
	for _, w := range wrongWords() {
		l = append(l, drop(w), add(w, freeCol("n")), outOf(w, "x"), rename(w, "x", "y"))
		l = append(l, outOf("t", w), rename("t", w, "y"), rename("t", "x", w))
	}
	return append(l, ddlsWithMore()...)
}

// ddlsWithMore are right but for one field, which should be zero.
func ddlsWithMore() []impl.Ddl {
	var l []impl.Ddl
	more := func(d impl.Ddl, cols bool, keys bool, name bool, to bool) {
		a, b, c, e := d, d, d, d
		a.Cols, b.Keys, c.Name, e.To = append(roomy(d.Cols), freeCol("m")), []string{"k"}, "x", "y"
		for i, on := range []bool{cols, keys, name, to} {
			if on {
				l = append(l, []impl.Ddl{a, b, c, e}[i])
			}
		}
	}
	more(create(tableOf("t", "k", "k")), false, false, true, true)
	more(drop("t"), true, true, true, true)
	more(add("t", freeCol("n")), true, true, true, true)
	more(outOf("t", "x"), true, true, false, true)
	more(rename("t", "x", "y"), true, true, false, false)
	none := add("t", freeCol("n"))
	none.Cols = nil
	odd := drop("t")
	odd.Name = " "
	return append(l, none, odd)
}

func TestP15ChapterThreeConstants(t *testing.T) {
	if impl.MaxCols != 8 || impl.MaxTables != 6 {
		t.Errorf("MaxCols %d, MaxTables %d", impl.MaxCols, impl.MaxTables)
	}
	kinds := [5]int{impl.DdlCreate, impl.DdlDrop, impl.DdlAdd, impl.DdlOut, impl.DdlName}
	if kinds != [5]int{1, 2, 3, 4, 5} {
		t.Errorf("kinds %v", kinds)
	}
}

func TestP15ColOk(t *testing.T) {
	for _, c := range rightCols() {
		if !impl.ColOk(c) {
			t.Errorf("ColOk(%+v) is false", c)
		}
	}
	for _, c := range wrongCols() {
		if impl.ColOk(c) {
			t.Errorf("ColOk(%+v) is true", c)
		}
	}
}

func TestP15TableOk(t *testing.T) {
	for _, x := range rightTables() {
		if !impl.TableOk(x) {
			t.Errorf("TableOk(%+v) is false", x)
		}
	}
	for _, x := range wrongTables() {
		if impl.TableOk(x) {
			t.Errorf("TableOk(%+v) is true", x)
		}
	}
	for _, c := range rightCols() {
		x := impl.Table{Name: "t", Cols: []impl.Col{c, keyCol("key")}, Keys: []string{"key"}}
		if !impl.TableOk(x) {
			t.Errorf("TableOk(%+v) is false", x)
		}
	}
}

func TestP15CatOk(t *testing.T) {
	for _, c := range rightCats() {
		if !impl.CatOk(c) {
			t.Errorf("CatOk(%+v) is false", c)
		}
	}
	for _, c := range wrongCats() {
		if impl.CatOk(c) {
			t.Errorf("CatOk(%+v) is true", c)
		}
	}
}

func TestP15TableOf(t *testing.T) {
	for _, c := range rightCats() {
		for _, want := range c.Tables {
			if got, ok := impl.TableOf(c, want.Name); !ok || !same(got, want) {
				t.Errorf("TableOf(%+v, %q) is %+v, %v", c, want.Name, got, ok)
			}
		}
		for _, name := range []string{"", "a b", "B", "aa", "e", "zz", "bb", "tt"} {
			if got, ok := impl.TableOf(c, name); ok || !same(got, impl.Table{}) {
				t.Errorf("TableOf(%+v, %q) is %+v, %v", c, name, got, ok)
			}
		}
	}
	for _, c := range wrongCats() {
		for _, x := range c.Tables {
			if got, ok := impl.TableOf(c, x.Name); ok || !same(got, impl.Table{}) {
				t.Errorf("TableOf(%+v, %q) is %+v, %v", c, x.Name, got, ok)
			}
		}
	}
}

func TestP15ColAt(t *testing.T) {
	full := tableOf("t", "ka kb kc x y z a b", "ka")
	for i, c := range full.Cols {
		if got := impl.ColAt(full, c.Name); got != i {
			t.Errorf("ColAt of %q is %d, not %d", c.Name, got, i)
		}
	}
	for _, name := range []string{"", "k", "kaa", "K", "t", "xy", "x "} {
		if got := impl.ColAt(full, name); got != -1 {
			t.Errorf("ColAt of %q is %d", name, got)
		}
	}
	many := impl.Table{Name: "No Table", Keys: []string{"none"}}
	for i := range 300 {
		many.Cols = append(many.Cols, impl.Col{Name: "C" + strconv.Itoa(i), Ty: -i})
	}
	cases := []struct {
		x    impl.Table
		name string
		at   int
	}{
		{impl.Table{}, "", -1}, {impl.Table{}, "a", -1}, {impl.Table{Keys: []string{"a"}}, "a", -1},
		{impl.Table{Cols: []impl.Col{{}}}, "", 0}, {impl.Table{Cols: []impl.Col{keyCol("a"), {}}}, "", 1},
		{many, "C0", 0}, {many, "C8", 8}, {many, "C299", 299}, {many, "C300", -1}, {many, "none", -1},
		{tableOf("t", "ka x kb x", "ka"), "x", 1}, {tableOf("", "x x x", ""), "x", 0},
	}
	for _, c := range cases {
		if got := impl.ColAt(c.x, c.name); got != c.at {
			t.Errorf("ColAt(%+v, %q) is %d, not %d", c.x, c.name, got, c.at)
		}
	}
}

func TestP15DdlOk(t *testing.T) {
	for _, d := range rightDdls() {
		if !impl.DdlOk(d) {
			t.Errorf("DdlOk(%+v) is false", d)
		}
	}
	for _, d := range wrongDdls() {
		if impl.DdlOk(d) {
			t.Errorf("DdlOk(%+v) is true", d)
		}
	}
	empty := drop("t")
	empty.Cols, empty.Keys = []impl.Col{}, []string{}
	if !impl.DdlOk(empty) || !impl.DdlOk(rename("t", "x", "x")) {
		t.Error("DdlOk of empty lists, or of a name to itself, is false")
	}
}

func sayApplied(t *testing.T, c impl.Cat, d impl.Ddl, want impl.Cat) {
	t.Helper()
	got, code := impl.DdlApply(c, d)
	if code != 0 || !same(got, want) {
		t.Errorf("DdlApply(%+v, %+v) is %+v, %d; not %+v", c, d, got, code, want)
	}
}

func TestP9CreatedTablesComeToTheirPlace(t *testing.T) {
	b, d, f := smallCat(3).Tables[0], smallCat(3).Tables[1], smallCat(3).Tables[2]
	for i, name := range []string{"a", "c", "e", "g"} {
		x := tableOf(name, "x k", "k")
		tables := [][]impl.Table{{x, b, d, f}, {b, x, d, f}, {b, d, x, f}, {b, d, f, x}}[i]
		sayApplied(t, smallCat(3), create(x), catOf(tables...))
	}
	for _, x := range rightTables() {
		sayApplied(t, impl.Cat{}, create(x), catOf(x))
	}
	last := tableOf("n", "k", "k")
	sayApplied(t, smallCat(impl.MaxTables-1), create(last), catOf(append(smallCat(impl.MaxTables-1).Tables, last)...))
	longer := tableOf("bb", "k", "k")
	sayApplied(t, catOf(b), create(longer), catOf(b, longer))
}

func TestP9DroppedTablesGo(t *testing.T) {
	for n := 1; n <= impl.MaxTables; n++ {
		for i := range n {
			c := smallCat(n)
			rest := append(roomy(c.Tables[:i]), c.Tables[i+1:]...)
			sayApplied(t, c, drop(c.Tables[i].Name), catOf(rest...))
		}
	}
}

// sayChanged asks for a change of each of the tables of a catalog, the others staying.
func sayChanged(t *testing.T, from impl.Table, d impl.Ddl, to impl.Table) {
	t.Helper()
	for n := 1; n <= impl.MaxTables; n++ {
		for i := range n {
			c, want := smallCat(n), smallCat(n)
			from.Name, d.Table, to.Name = c.Tables[i].Name, c.Tables[i].Name, c.Tables[i].Name
			c.Tables[i], want.Tables[i] = from, to
			sayApplied(t, c, d, want)
		}
	}
}

func TestP9AddedColumnsStandBehindTheOthers(t *testing.T) {
	for _, c := range rightCols() {
		if c.Has || !c.Not {
			from, to := tableOf("t", "kz x ka", "kz ka"), tableOf("t", "kz x ka", "kz ka")
			to.Cols = append(to.Cols, c)
			sayChanged(t, from, add("t", c), to)
		}
	}
	seven, eight := namesOf("k", impl.MaxCols-1), namesOf("k", impl.MaxCols-1)+" a"
	sayChanged(t, tableOf("t", seven, "k"), add("t", freeCol("a")), tableOf("t", eight, "k"))
}

func TestP9ColumnsGoOut(t *testing.T) {
	keys := "kb ka"
	sayChanged(t, tableOf("t", "x kb y ka z", keys), outOf("t", "x"), tableOf("t", "kb y ka z", keys))
	sayChanged(t, tableOf("t", "x kb y ka z", keys), outOf("t", "y"), tableOf("t", "x kb ka z", keys))
	sayChanged(t, tableOf("t", "x kb y ka z", keys), outOf("t", "z"), tableOf("t", "x kb y ka", keys))
	sayChanged(t, tableOf("t", "ka kb kc", "kb"), outOf("t", "ka"), tableOf("t", "kb kc", "kb"))
	sayChanged(t, tableOf("t", "k x", "k"), outOf("t", "x"), tableOf("t", "k", "k"))
	sayChanged(t, tableOf("t", "k z y x w v u a", "k"), outOf("t", "z"), tableOf("t", "k y x w v u a", "k"))
}

func TestP9ColumnsGetNames(t *testing.T) {
	from := tableOf("t", "kz x ka y kb", "kz ka kb")
	sayChanged(t, from, rename("t", "x", "a"), tableOf("t", "kz a ka y kb", "kz ka kb"))
	sayChanged(t, from, rename("t", "y", "zz"), tableOf("t", "kz x ka zz kb", "kz ka kb"))
	sayChanged(t, from, rename("t", "kz", "kn"), tableOf("t", "kn x ka y kb", "kn ka kb"))
	sayChanged(t, from, rename("t", "ka", "kn"), tableOf("t", "kz x kn y kb", "kz kn kb"))
	sayChanged(t, from, rename("t", "kb", "kabcdefg"), tableOf("t", "kz x ka y kabcdefg", "kz ka kabcdefg"))
	sayChanged(t, tableOf("t", "ka kb", "kb"), rename("t", "ka", "kn"), tableOf("t", "kn kb", "kb"))
	sayChanged(t, tableOf("t", "k x y z a b c d", "k"), rename("t", "d", "e"), tableOf("t", "k x y z a b c e", "k"))
	had, has := tableOf("t", "k", "k"), tableOf("t", "k", "k")
	had.Cols, has.Cols = append(had.Cols, defCol("a", true, intVal(5))), append(has.Cols, defCol("b", true, intVal(5)))
	sayChanged(t, had, rename("t", "a", "b"), has)
}

func TestP15CodesOfDdlApply(t *testing.T) {
	full := smallCat(impl.MaxTables)
	wide := catOf(tableOf("t", namesOf("k", impl.MaxCols), "k"))
	small := catOf(tableOf("t", "ka x kb y kc", "ka kb"))
	cases := []struct {
		c    impl.Cat
		d    impl.Ddl
		code int
	}{
		{small, create(tableOf("t", "k", "k")), 2}, {small, create(small.Tables[0]), 2},
		{full, create(tableOf("a", "k", "k")), 3}, {full, create(tableOf("z", "k", "k")), 3},
		{full, create(tableOf("b", "k", "k")), 2}, {full, create(full.Tables[5]), 2},
		{impl.Cat{}, drop("t"), 4}, {small, drop("s"), 4}, {small, drop("tt"), 4}, {full, drop("a"), 4},
		{small, add("u", freeCol("n")), 4}, {small, add("u", freeCol("x")), 4}, {full, add("a", freeCol("n")), 4},
		{small, outOf("u", "x"), 4}, {small, outOf("u", "ka"), 4}, {small, outOf("u", "n"), 4},
		{small, rename("u", "x", "n"), 4}, {small, rename("u", "n", "x"), 4}, {impl.Cat{}, rename("t", "x", "n"), 4},
		{small, add("t", freeCol("x")), 5}, {small, add("t", freeCol("ka")), 5}, {small, add("t", defCol("y", true, intVal(1))), 5},
		{wide, add("t", freeCol("k")), 5}, {wide, add("t", freeCol("ch")), 5}, {wide, add("t", freeCol("n")), 6},
		{small, rename("t", "x", "y"), 5}, {small, rename("t", "x", "ka"), 5}, {small, rename("t", "ka", "kb"), 5},
		{small, rename("t", "n", "y"), 5}, {small, rename("t", "x", "x"), 5}, {small, rename("t", "ka", "ka"), 5},
		{small, rename("t", "n", "m"), 7}, {small, rename("t", "n", "n"), 7}, {wide, rename("t", "n", "m"), 7},
		{small, outOf("t", "n"), 7}, {wide, outOf("t", "n"), 7}, {small, outOf("t", "t"), 7},
		{small, outOf("t", "ka"), 8}, {small, outOf("t", "kb"), 8}, {wide, outOf("t", "k"), 8}, {small, outOf("t", "kc"), 0},
		{wide, outOf("t", "ch"), 0}, {wide, rename("t", "ch", "n"), 0}, {full, drop("b"), 0}, {full, add("b", freeCol("n")), 0},
	}
	for _, c := range cases {
		if got, code := impl.DdlApply(c.c, c.d); code != c.code || code != 0 && !same(got, impl.Cat{}) {
			t.Errorf("DdlApply(%+v, %+v) is %+v, %d; not %d", c.c, c.d, got, code, c.code)
		}
	}
}

func TestP15WrongArgumentsAreCodeOne(t *testing.T) {
	sayOne := func(c impl.Cat, d impl.Ddl) {
		if got, code := impl.DdlApply(c, d); code != 1 || !same(got, impl.Cat{}) {
			t.Errorf("DdlApply(%+v, %+v) is %+v, %d", c, d, got, code)
		}
	}
	for _, c := range wrongCats() {
		for _, d := range []impl.Ddl{create(tableOf("m", "k", "k")), drop("m"), add("m", freeCol("k")), outOf("none", "x"), rename("t", "x", "y"), {}} {
			sayOne(c, d)
		}
	}
	for _, d := range wrongDdls() {
		for _, c := range rightCats() {
			sayOne(c, d)
		}
	}
}

func TestP9WhatGoesIsRightElseNothing(t *testing.T) {
	seen := map[int]int{}
	for _, c := range append(rightCats(), wrongCats()...) {
		for _, d := range rightDdls() {
			got, code := impl.DdlApply(c, d)
			seen[code]++
			if code == 0 && !impl.CatOk(got) || code != 0 && !same(got, impl.Cat{}) || code < 0 || code > 8 {
				t.Errorf("DdlApply(%+v, %+v) is %+v, %d", c, d, got, code)
			}
		}
	}
	for code := 0; code <= 8; code++ {
		if seen[code] == 0 {
			t.Errorf("code %d never came", code)
		}
	}
}

func TestP15SameTable(t *testing.T) {
	right := rightTables()
	for i, a := range right {
		for j := range right {
			if got := impl.SameTable(a, rightTables()[j]); got != (i == j) {
				t.Errorf("SameTable(%+v, %+v) is %v", a, right[j], got)
			}
		}
	}
	for _, a := range wrongTables() {
		if impl.SameTable(a, a) || impl.SameTable(a, right[0]) || impl.SameTable(right[0], a) {
			t.Errorf("SameTable of %+v is true", a)
		}
	}
	cols := rightCols()
	for i := range cols {
		for j := range cols {
			a := impl.Table{Name: "t", Cols: []impl.Col{keyCol("key"), cols[i]}, Keys: []string{"key"}}
			b := impl.Table{Name: "t", Cols: []impl.Col{keyCol("key"), cols[j]}, Keys: []string{"key"}}
			if got := impl.SameTable(a, b); got != (i == j) {
				t.Errorf("SameTable(%+v, %+v) is %v", a, b, got)
			}
		}
	}
}

func colLists(name string, cols []impl.Col, keys []string) []list {
	return []list{
		listOf(name+".Cols", cols, impl.Col{Name: "junk", Ty: 9, Not: true, Def: intVal(9)}, showOf),
		listOf(name+".Keys", keys, "junk", showOf),
	}
}

func tableLists(name string, t impl.Table) []list { return colLists(name, t.Cols, t.Keys) }

func catLists(name string, c impl.Cat) []list {
	nameOf := func(t impl.Table) string { return t.Name }
	l := []list{listOf(name+".Tables", c.Tables, impl.Table{Name: "junk"}, nameOf)}
	for i, t := range c.Tables {
		l = append(l, tableLists(name+".Tables["+strconv.Itoa(i)+"]", t)...)
	}
	return l
}

func TestP15TableOfIsNewMemory(t *testing.T) {
	for n := 1; n <= impl.MaxTables; n++ {
		for i := range n {
			c := smallCat(n)
			args := catLists("c", c)
			var got impl.Table
			sayUnchanged(t, "TableOf", args, func() { got, _ = impl.TableOf(c, c.Tables[i].Name) })
			sayApart(t, "TableOf", append(args, tableLists("answer", got)...))
		}
	}
}

func TestP15DdlApplyIsNewMemory(t *testing.T) {
	went := map[int]int{}
	cats := func() []impl.Cat {
		return []impl.Cat{smallCat(1), smallCat(impl.MaxTables - 1), smallCat(impl.MaxTables), catOf(tableOf("t", "k x", "k"))}
	}
	for i := range cats() {
		for _, d := range rightDdls() {
			c := cats()[i]
			args := append(catLists("c", c), colLists("d", d.Cols, d.Keys)...)
			var got impl.Cat
			code := 0
			sayUnchanged(t, "DdlApply", args, func() { got, code = impl.DdlApply(c, d) })
			if code == 0 {
				went[d.Kind]++
				sayApart(t, "DdlApply of kind "+strconv.Itoa(d.Kind), append(args, catLists("answer", got)...))
			}
		}
	}
	for kind := impl.DdlCreate; kind <= impl.DdlName; kind++ {
		if went[kind] == 0 {
			t.Errorf("kind %d never went", kind)
		}
	}
}

func TestP15OtherArgumentsStay(t *testing.T) {
	for i := range rightCats() {
		c, d := rightCats()[i], rightDdls()[i]
		args := append(catLists("c", c), colLists("d", d.Cols, d.Keys)...)
		sayUnchanged(t, "what asks", args, func() {
			impl.CatOk(c)
			impl.DdlOk(d)
			for _, x := range c.Tables {
				impl.TableOk(x)
				impl.ColAt(x, "x")
				impl.SameTable(x, x)
			}
		})
	}
}
