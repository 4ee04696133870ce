package tests

import (
	"regexp"
	"slices"
	"strconv"
	"strings"
	"testing"

	"loop.example/g00462/impl"
)

// The texts of chapter 6 as a grammar, told a second time and in another way
// than the program does it.
const (
	wordForm = `[a-z]{1,8}`
	numForm  = `(?:0|-?[1-9][0-9]{0,12})`
	strForm  = `'(?:[!-$&(-~]|%(?:[01][0-9a-f]|20|25|27|7f|[89a-f][0-9a-f])){0,30}'`
	valsForm = `(?: (?:null|true|false|` + numForm + `|` + strForm + `)){1,8}`
	defForm  = `(?:bool(?: not)? =(?:true|false)|int(?: not)? =` + numForm + `|text(?: not)? =` + strForm + `)`
	lateForm = wordForm + ` (?:` + defForm + `|(?:bool|int|text)(?: =null)?)`
	colForm  = wordForm + ` (?:` + defForm + `|(?:bool|int|text)(?: =null| not)?)`
	makeForm = `create ` + wordForm + `(?: \( ` + colForm + ` \)){1,8} key(?: ` + wordForm + `){1,8}`
	ddlForm  = `(?:` + makeForm + `|add ` + wordForm + ` ` + lateForm + `|(?:drop|out ` + wordForm + `|name ` + wordForm + ` ` + wordForm + `) ` + wordForm + `)`
	stmtForm = `(?:(?:insert|delete) ` + wordForm + valsForm + `|update ` + wordForm + valsForm + ` to` + valsForm + `|clear ` + wordForm + `|` + ddlForm + `)`
)

var (
	colText    = regexp.MustCompile(`\A` + colForm + `\z`)
	ddlText    = regexp.MustCompile(`\A` + ddlForm + `\z`)
	stmtText   = regexp.MustCompile(`\A` + stmtForm + `\z`)
	makeText   = regexp.MustCompile(`\A` + makeForm + `\z`)
	numInText  = regexp.MustCompile(`[ =](-?[0-9]{13})(?: |\z)`)
	colsInText = regexp.MustCompile(`\( (` + wordForm + `) \S+( not)?`)
)

// numsFit holds the numbers that the grammar alone doesn't against MaxNum.
func numsFit(s string) bool {
	for _, m := range numInText.FindAllStringSubmatch(strings.ReplaceAll(s, " ", "  "), -1) {
		if n, _ := strconv.Atoi(m[1]); n < -impl.MaxNum || n > impl.MaxNum {
			return false
		}
	}
	return true
}

// keysFit is true for all that creates no table, too.
func keysFit(s string) bool {
	if !makeText.MatchString(s) {
		return true
	}
	var names, may []string
	for _, m := range colsInText.FindAllStringSubmatch(s, -1) {
		if slices.Contains(names, m[1]) {
			return false
		}
		names = append(names, m[1])
		if m[2] != "" {
			may = append(may, m[1])
		}
	}
	for _, k := range strings.Fields(s[strings.LastIndex(s, ") key ")+len(") key "):]) {
		at := slices.Index(may, k)
		if at < 0 {
			return false
		}
		may = may[at+1:]
	}
	return true
}

func isColText(s string) bool  { return colText.MatchString(s) && numsFit(s) }
func isDdlText(s string) bool  { return ddlText.MatchString(s) && numsFit(s) && keysFit(s) }
func isStmtText(s string) bool { return stmtText.MatchString(s) && numsFit(s) && keysFit(s) }

// sayText asks that the thing has that text and is read from it.
func sayText[T any](t *testing.T, x T, s string, write func(T) string, read func(string) (T, bool)) {
	t.Helper()
	if got := write(x); got != s {
		t.Errorf("the text of %+v is %q, not %q", x, got, s)
	}
	if got, ok := read(s); !ok || !same(got, x) {
		t.Errorf("%q is read as %+v, %v; not %+v", s, got, ok, x)
	}
}

func sayNotRead[T any](t *testing.T, s string, read func(string) (T, bool)) {
	t.Helper()
	var nothing T
	if got, ok := read(s); ok || !same(got, nothing) {
		t.Errorf("%q is read as %+v, %v", s, got, ok)
	}
}

func sayCol(t *testing.T, c impl.Col, s string) {
	t.Helper()
	sayText(t, c, s, impl.ColText, impl.TextCol)
}

func sayStmt(t *testing.T, x impl.Stmt, s string) {
	t.Helper()
	sayText(t, x, s, impl.StmtText, impl.TextStmt)
}

// sayDdl asks it of the change and of the statement that is the change.
func sayDdl(t *testing.T, d impl.Ddl, s string) {
	t.Helper()
	sayText(t, d, s, impl.DdlText, impl.TextDdl)
	sayStmt(t, change(d), s)
}

func TestP15ColText(t *testing.T) {
	b := impl.Col{Name: "a", Ty: impl.TyBool}
	i := impl.Col{Name: "abcdefgh", Ty: impl.TyInt}
	s := impl.Col{Name: "z", Ty: impl.TyText}
	kinds := func(c impl.Col, not bool, def impl.Val) impl.Col {
		c.Not, c.Has, c.Def = not, true, def
		return c
	}
	null := impl.Val{}
	sayCol(t, b, "a bool")
	sayCol(t, i, "abcdefgh int")
	sayCol(t, s, "z text")
	sayCol(t, impl.Col{Name: "a", Ty: impl.TyBool, Not: true}, "a bool not")
	sayCol(t, keyCol("k"), "k int not")
	sayCol(t, impl.Col{Name: "a", Ty: impl.TyText, Not: true}, "a text not")
	sayCol(t, kinds(b, false, null), "a bool =null")
	sayCol(t, kinds(i, false, null), "abcdefgh int =null")
	sayCol(t, kinds(s, false, null), "z text =null")
	sayCol(t, kinds(b, false, boolVal(1)), "a bool =true")
	sayCol(t, kinds(b, true, boolVal(0)), "a bool not =false")
	sayCol(t, kinds(i, false, intVal(0)), "abcdefgh int =0")
	sayCol(t, kinds(i, true, intVal(-7)), "abcdefgh int not =-7")
	sayCol(t, kinds(i, true, intVal(impl.MaxNum)), "abcdefgh int not =1099511627775")
	sayCol(t, kinds(s, true, textVal("")), "z text not =''")
	sayCol(t, kinds(s, false, textVal("a b")), "z text ='a%20b'")
	sayCol(t, kinds(s, true, textVal("='%\n\xff")), "z text not ='=%27%25%0a%ff'")
	sayCol(t, kinds(s, false, textVal("null")), "z text ='null'")
	for _, name := range []string{"not", "bool", "int", "text", "key", "null", "to"} {
		sayCol(t, keyCol(name), name+" int not")
	}
}

func TestP15DdlText(t *testing.T) {
	mixed := impl.Table{Name: "t", Cols: []impl.Col{keyCol("id"), freeCol("a"), {Name: "b", Ty: impl.TyBool, Not: true, Has: true, Def: boolVal(1)}}, Keys: []string{"id"}}
	sayDdl(t, create(mixed), "create t ( id int not ) ( a text ) ( b bool not =true ) key id")
	sayDdl(t, create(tableOf("t", "k", "k")), "create t ( k int not ) key k")
	sayDdl(t, create(tableOf("abcdefgh", "x kb y kc", "kb kc")), "create abcdefgh ( x text ) ( kb int not ) ( y text ) ( kc int not ) key kb kc")
	sayDdl(t, create(tableOf("key", "key k", "key k")), "create key ( key int not ) ( k int not ) key key k")
	sayDdl(t, create(tableOf("t", namesOf("k", impl.MaxCols), "k")), "create t ( k int not ) ( cb text ) ( cc text ) ( cd text ) ( ce text ) ( cf text ) ( cg text ) ( ch text ) key k")
	full := "create t ( ka int not ) ( kb int not ) ( kc int not ) ( kd int not ) ( ke int not ) ( kf int not ) ( kg int not ) ( kh int not ) key ka kb kc kd ke kf kg kh"
	sayDdl(t, create(tableOf("t", "ka kb kc kd ke kf kg kh", "ka kb kc kd ke kf kg kh")), full)
	sayDdl(t, drop("t"), "drop t")
	sayDdl(t, drop("drop"), "drop drop")
	sayDdl(t, add("t", freeCol("n")), "add t n text")
	sayDdl(t, add("t", defCol("n", false, impl.Val{})), "add t n int =null")
	sayDdl(t, add("t", defCol("n", true, intVal(4))), "add t n int not =4")
	sayDdl(t, outOf("t", "x"), "out t x")
	sayDdl(t, rename("t", "x", "y"), "name t x y")
	sayDdl(t, rename("name", "name", "name"), "name name name name")
}

func TestP15StmtText(t *testing.T) {
	odd := "'a b'%\xc3\n"
	sayStmt(t, insert("t", rowOf(intVal(5), textVal("x y"), boolVal(0))), "insert t 5 'x%20y' false")
	sayStmt(t, insert("null", rowOf(impl.Val{})), "insert null null")
	sayStmt(t, insert("t", rowOf(textVal(odd), textVal(""))), "insert t '%27a%20b%27%25%c3%0a' ''")
	sayStmt(t, insert("t", rowOf(valsOf(boolVal(1), impl.MaxCols)...)), "insert t"+strings.Repeat(" true", impl.MaxCols))
	sayStmt(t, update("t", intKey(5), rowOf(intVal(6), impl.Val{}, boolVal(1))), "update t 5 to 6 null true")
	sayStmt(t, update("to", keyOf(textVal("to"), intVal(-1)), rowOf(textVal("to"))), "update to 'to' -1 to 'to'")
	many, text := valsOf(intVal(-impl.MaxNum), impl.MaxCols), strings.Repeat(" -1099511627775", impl.MaxCols)
	sayStmt(t, update("t", many, rowOf(many...)), "update t"+text+" to"+text)
	sayStmt(t, remove("t", intKey(5)), "delete t 5")
	sayStmt(t, remove("abcdefgh", keyOf(textVal("~!"), boolVal(0))), "delete abcdefgh '~!' false")
	sayStmt(t, remove("t", many), "delete t"+text)
	sayStmt(t, empty("t"), "clear t")
	sayStmt(t, empty("clear"), "clear clear")
	sayStmt(t, change(drop("insert")), "drop insert")
}

func TestP4EachThingHasOneText(t *testing.T) {
	was := map[string]int{}
	for i, s := range rightStmts() {
		text := impl.StmtText(s)
		if !isStmtText(text) {
			t.Errorf("the text of %+v is %q", s, text)
		}
		if got, ok := impl.TextStmt(text); !ok || !same(got, s) {
			t.Errorf("%q is read as %+v, %v; not %+v", text, got, ok, s)
		}
		if at, found := was[text]; found && !same(rightStmts()[at], s) {
			t.Errorf("%q is the text of two statements", text)
		}
		was[text] = i
	}
	for _, d := range rightDdls() {
		sayDdl(t, d, impl.DdlText(d))
	}
	for _, c := range rightCols() {
		sayCol(t, c, impl.ColText(c))
	}
	for _, v := range risingVals() {
		text := impl.ValText(v)
		sayStmt(t, insert("t", rowOf(v, intVal(1), v)), "insert t "+text+" 1 "+text)
		sayStmt(t, remove("t", keyOf(intVal(1), v)), "delete t 1 "+text)
		sayStmt(t, update("t", keyOf(v), rowOf(v)), "update t "+text+" to "+text)
		if v != (impl.Val{}) {
			c := impl.Col{Name: "n", Ty: v.Ty, Not: true, Has: true, Def: v}
			sayCol(t, c, "n "+[]string{"bool", "int", "text"}[v.Ty-1]+" not ="+text)
			sayDdl(t, add("t", c), "add t "+impl.ColText(c))
		}
	}
}

func sayNoText[T any](t *testing.T, l []T, write func(T) string) {
	t.Helper()
	for _, x := range l {
		if got := write(x); got != "" {
			t.Errorf("the text of %+v is %q", x, got)
		}
	}
}

func TestP15WhatIsNotRightHasNoText(t *testing.T) {
	sayNoText(t, wrongCols(), impl.ColText)
	sayNoText(t, wrongDdls(), impl.DdlText)
	sayNoText(t, wrongStmts(), impl.StmtText)
	sayNoText(t, wrongDbs(), impl.DbText)
}

func TestP4TextsOfNoColumnAreNotRead(t *testing.T) {
	for _, s := range []string{
		"", " ", "  ", "a", "a ", " a", "bool", "int", "a num", "a null", "a Int", "A int", "a INT", "abcdefghi int", "a int x", "a  int", " a int",
		"a int ", "a int  ", "a int\n", "\na int", "a\nint", "a int  not", "a int Not", "a int not not", "a int nots", "a int = 4", "a int =", "a int not =",
		"a int =4 not", "a int =4 =4", "a int =4 5", "a int 4", "a int ==4", "a int =+4", "a int =04", "a int =-0", "a int =4x", "a int not =null",
		"a bool not =null", "a text not =null", "a int =true", "a int ='4'", "a bool =0", "a text =a", "a text ='a", "a text =a'", "a text ='a b'",
		"a text ='%41'", "a text ='%2'", "a text ='%2A'", "a text =''' ", "a int =1099511627776", "a int =-1099511627776", "a text ='" + strings.Repeat("a", 31) + "'",
		"a int not =4 not", "( a int )", "a int )", "( a int", "a\tint", "a\x00int", "a int\x00", "\xc3\xa9 int", "a \xff", "a int \xff", "a int =\xff", "a text ='\xc3\xa9'",
	} {
		sayNotRead(t, s, impl.TextCol)
	}
}

// textsOfNoDdl are texts of no statement, either.
func textsOfNoDdl() []string {
	l := []string{
		"", " ", "   ", "t", "x t", "Drop t", "DROP t", "droptable t", "drop", "drop ", "drop  t", " drop t", "drop t ", "drop t u", "drop T", "drop t\n", "drop 1",
		"drop abcdefghi", "drop 't'", "out t", "out t ", "out", "out t x y", "out t X", "out  t x", "out t  x", "out t x ", "name t x", "name t", "name t x y z",
		"name t x Y", "name t x  y", "name t x y ", "name t x", "name t x ", "add t", "add t n", "add t n num", "add t n int not", "add t n text not",
		"add t n int not =null", "add n int", "add t n int =", "add t n int =4 5", "add t  n int", "add t n int ", "add t ( n int )", "add t n int =04",
		"create", "create t", "create t key", "create t key k", "create t ( k int not )", "create t ( k int not ) key", "create t ( k int not ) key ",
		"create t ( k int not ) key x", "create t ( k int not ) key k k", "create t ( k int not ) key k x", "create t ( k int ) key k", "create t ( k int not ) key K",
		"create t ( k int =4 ) key k", "create t k int not key k", "create t ( k int not key k", "create t k int not ) key k", "create t (k int not) key k",
		"create t ( ( k int not ) ) key k", "create t ( ) key k", "create t ( k int not ) ( ) key k", "create t ( k int not ) ) key k", "create t ( ( k int not ) key k",
		"create t ) k int not ( key k", "create t [ k int not ] key k", "create t ( k int not ) keys k", "create t ( k int not ) Key k", "create t ( k int not ) key k ",
		"create t ( k int not )  key k", "create t  ( k int not ) key k", "create t (  k int not ) key k", "create t ( k int not  ) key k", "create t ( k int not ) key  k",
		"create t ( k int not ) ( k int not ) key k", "create t ( k int not ) ( x text ) ( x text ) key k", "create t ( a int not ) ( b int not ) key b a",
		"create t ( a int not ) ( b int not ) key a b a", "create t ( k int not ) key k\n", "create ( k int not ) key k", "create T ( k int not ) key k",
		"create t ( k int not ) key k ( x text )", "key k create t ( k int not )", "create t ( k int not, x text ) key k", "create t ( k int not =+4 ) key k",
		"create t ( not int not ) key", "create t ( key int not ) key", "drop \xff", "drop \xc3\xa9", "\xffdrop t", "drop t\xff", "drop t\x00", "drop\tt",
	}
	nine := "create t ( k int not )"
	for i := range impl.MaxCols {
		nine += " ( c" + string(rune('a'+i)) + " text )"
	}
	return append(l, nine+" key k", strings.Repeat(" ", 500), strings.Repeat("drop ", 500), "create t"+strings.Repeat(" ( k int not )", 300)+" key k", "create t ( k int not ) key"+strings.Repeat(" k", 300))
}

func TestP4TextsOfNoChangeAreNotRead(t *testing.T) {
	for _, s := range textsOfNoDdl() {
		sayNotRead(t, s, impl.TextDdl)
		sayNotRead(t, s, impl.TextStmt)
	}
	for _, s := range []string{"insert t 5", "update t 5 to 6", "delete t 5", "clear t", "clear", "insert t"} {
		sayNotRead(t, s, impl.TextDdl)
	}
}

func TestP4TextsOfNoStatementAreNotRead(t *testing.T) {
	nine := strings.Repeat(" 1", impl.MaxCols+1)
	for _, s := range []string{
		"insert", "insert ", "insert t", "insert t ", "insert 5", "insert t x", "insert T 5", "Insert t 5", "INSERT t 5", "insert  t 5", "insert t  5", " insert t 5",
		"insert t 5 ", "insert t 5  6", "insert t 5\n", "insert t 5\ninsert t 6", "insert t 05", "insert t +5", "insert t -0", "insert t 5.", "insert t 0x5", "insert t 5,6",
		"insert t ( 5 )", "insert t NULL", "insert t True", "insert t nul", "insert t '", "insert t 'a", "insert t a'", "insert t 'a b'", "insert t 'a''", "insert t '%'", "insert t '%4'",
		"insert t '%41'", "insert t '%0A'", "insert t '\x7f'", "insert t '\xff'", "insert t '\xc3\xa9'", "insert t 1099511627776", "insert t -1099511627776",
		"insert t 99999999999999999999", "insert t '" + strings.Repeat("a", 31) + "'", "insert t" + nine, "insert t" + strings.Repeat(" 1", 400), "insert to 5 to 6", "insert t 5 to",
		"insert abcdefghi 5", "insert \xff 5", "insert t \xff", "insert t =5",
		"update t 5 6", "update t 5", "update t", "update", "update t to 6", "update t 5 to", "update t 5 to ", "update t to", "update t 5 to 6 to 7", "update t 5 to to 6", "update to 6",
		"update t 5 To 6", "update t 5  to 6", "update t 5 to  6", "update t  5 to 6", "update t 5 to 6 ", "update 5 to 6", "update t 5to 6", "update t 5 to6", "update t x to 6",
		"update t 5 to x", "update t" + nine + " to 6", "update t 5 to" + nine, "update t 05 to 6", "update t 5 to +6", "Update t 5 to 6", "update t 5\nto 6",
		"delete", "delete t", "delete t ", "delete 5", "delete t x", "delete t 5 ", "delete t  5", "delete t 5 to 6", "delete t" + nine, "Delete t 5", "delete T 5", "delete t 05", "delete t 5\n",
		"clear", "clear ", "clear t ", "clear t 5", "clear  t", "Clear t", "clear T", "clear t u", "clear t\n", " clear t", "clear \xff", "clears t", "clear abcdefghi",
	} {
		sayNotRead(t, s, impl.TextStmt)
	}
}

// changedTexts are texts near to s: a byte out, in or another one, and a word
// out, twice or behind its neighbour.
func changedTexts(s string) []string {
	out := []string{s}
	for i := range len(s) + 1 {
		for _, c := range []string{" ", "\n", "'", "%", "=", "(", ")", "+", "-", "0", "1", "9", "a", "z", "f", "A", "\x00", "\x7f", "\x80", "\xc3\xa9", "\xff"} {
			out = append(out, s[:i]+c+s[i:])
			if i < len(s) {
				out = append(out, s[:i]+c+s[i+1:])
			}
		}
		if i < len(s) {
			out = append(out, s[:i]+s[i+1:], s[:i], s[i:])
		}
	}
	words := strings.Split(s, " ")
	for i, w := range words {
		less := slices.Delete(slices.Clone(words), i, i+1)
		out = append(out, strings.Join(less, " "), strings.Join(slices.Insert(slices.Clone(words), i, w), " "))
		for j := range less {
			out = append(out, strings.Join(slices.Insert(slices.Clone(less), j, w), " "))
		}
		for _, v := range []string{"", "key", "to", "not", "null", "true", "5", "'5'", "=5", "int", "b", "(", ")", "insert", "drop", "add"} {
			other := slices.Clone(words)
			other[i] = v
			out = append(out, strings.Join(other, " "))
		}
	}
	return out
}

// sayReadWhere asks that just the texts that are some are read, and then as
// they were written.
func sayReadWhere[T any](t *testing.T, s string, is func(string) bool, write func(T) string, read func(string) (T, bool)) {
	t.Helper()
	for _, near := range changedTexts(s) {
		got, ok := read(near)
		if ok != is(near) || ok && write(got) != near {
			t.Errorf("%q is read as %+v, %v", near, got, ok)
		}
		if !ok {
			sayNotRead(t, near, read)
		}
	}
}

func TestP4TextsNearToOthers(t *testing.T) {
	for _, s := range []string{"a bool", "n int not =-10", "n text ='a%20%ff'", "abcdefgh int =1099511627775", "not text not", "n bool =null", "n text =''"} {
		sayReadWhere(t, s, isColText, impl.ColText, impl.TextCol)
	}
	ddls := []string{
		"drop t", "out t x", "name t x abcdefgh", "add t n int not =4", "add t n text =null", "create t ( k int not ) key k", "create key ( key int not ) ( b bool not =true ) key key b",
		"create t ( a int not ) ( b text =null ) ( c text not ='%25' ) key a c",
	}
	for _, s := range ddls {
		sayReadWhere(t, s, isDdlText, impl.DdlText, impl.TextDdl)
	}
	for _, s := range append(ddls, "insert t 5", "insert t 'x%20y' null false -3 0", "insert t"+strings.Repeat(" 7", impl.MaxCols), "update t 5 to 6 null",
		"update to 'to' 0 to true", "delete t 5", "delete t '%0a' false", "clear t", "clear abcdefgh") {
		sayReadWhere(t, s, isStmtText, impl.StmtText, impl.TextStmt)
	}
}

func TestP15RowText(t *testing.T) {
	for _, c := range []struct {
		r    impl.Row
		want string
	}{
		{impl.Row{}, ""}, {rowOf(impl.Val{}), "null"}, {rowOf(intVal(2), impl.Val{}, boolVal(0)), "2 null false"}, {rowOf(boolVal(1), intVal(-impl.MaxNum)), "true -1099511627775"},
		{rowOf(textVal(""), textVal(" "), textVal("'%\n\xff~")), "'' '%20' '%27%25%0a%ff~'"}, {rowOf(valsOf(intVal(7), 20)...), strings.TrimPrefix(strings.Repeat(" 7", 20), " ")},
	} {
		if got := impl.RowText(c.r); got != c.want {
			t.Errorf("RowText(%+v) is %q", c.r, got)
		}
	}
	for _, v := range wrongVals() {
		for _, r := range []impl.Row{rowOf(v), rowOf(v, intVal(1)), rowOf(intVal(1), v), rowOf(intVal(1), v, intVal(1))} {
			if got := impl.RowText(r); got != "" {
				t.Errorf("RowText(%+v) is %q", r, got)
			}
		}
	}
}

func TestP15Words(t *testing.T) {
	for s, want := range map[string][]string{
		"": {""}, " ": {"", ""}, "   ": {"", "", "", ""}, "a": {"a"}, "a b": {"a", "b"}, "a  b": {"a", "", "b"}, " a": {"", "a"}, "a ": {"a", ""},
		"  a b  ": {"", "", "a", "b", "", ""}, "a\tb\nc d": {"a\tb\nc", "d"}, "\xff \xc3\xa9 \x00": {"\xff", "\xc3\xa9", "\x00"}, "a\u00a0b": {"a\u00a0b"},
	} {
		if got := impl.Words(s); !slices.Equal(got, want) {
			t.Errorf("Words(%q) is %q", s, got)
		}
	}
	if got := impl.Words(strings.Repeat(" ", 1000)); len(got) != 1001 {
		t.Errorf("Words of 1000 blanks are %d", len(got))
	}
}

func sayDb(t *testing.T, d impl.Db, s string) {
	t.Helper()
	sayText(t, d, s, impl.DbText, impl.TextDb)
}

func TestP15DbText(t *testing.T) {
	sayDb(t, impl.Db{}, "")
	sayDb(t, impl.Db{Cat: catOf(), Data: []impl.Rows{}}, "")
	sayDb(t, plainDb(0), "create b ( k int not ) ( x text ) key k\n")
	sayDb(t, plainDb(0, 0), "create b ( k int not ) ( x text ) key k\ncreate d ( k int not ) ( x text ) key k\n")
	rows := []impl.Row{rowOf(intVal(-3), impl.Val{}), rowOf(intVal(2), textVal("x y\n")), rowOf(intVal(10), textVal(""))}
	sayDb(t, dbOf(catOf(plainTable()), rows), "create t ( k int not ) ( x text ) key k\ninsert t -3 null\ninsert t 2 'x%20y%0a'\ninsert t 10 ''\n")
	two := dbOf(catOf(tableOf("a", "k", "k"), plainTable()), []impl.Row{rowOf(intVal(1))}, rows[:1])
	sayDb(t, two, "create a ( k int not ) key k\ninsert a 1\ncreate t ( k int not ) ( x text ) key k\ninsert t -3 null\n")
	for _, d := range rightDbs() {
		text := ""
		for i, x := range d.Cat.Tables {
			text += impl.DdlText(create(x)) + "\n"
			for _, r := range d.Data[i].Rows {
				text += impl.StmtText(insert(x.Name, r)) + "\n"
			}
		}
		sayDb(t, d, text)
	}
}

func TestP4TextsOfNoStoreAreNotRead(t *testing.T) {
	b, d := "create b ( k int not ) ( x text ) key k\n", "create d ( k int not ) ( x text ) key k\n"
	one, two, three := "insert b 1 null\n", "insert b 2 null\n", "insert b 3 null\n"
	l := []string{
		" ", "\n", "\n\n", "\x00", "\xff", "b", "clear b", "clear b\n", "drop b\n", one, "delete b 1\n", "update b 1 to 1 null\n",
		strings.TrimSuffix(b, "\n"), b + "\n", "\n" + b, " " + b, strings.TrimSuffix(b, "\n") + " \n", strings.TrimSuffix(b, "\n") + "\r\n", b + " ", b + "\x00", b + "#\n",
		b + strings.TrimSuffix(one, "\n"), b + "\n" + one, b + one + "\n", b + one + one, b + two + one, b + three + one + two, b + one + three + two, one + b, b + " " + one,
		b + one + "insert b 1 'a'\n", b + "insert d 1 null\n", b + "insert a 1 null\n", b + d + one, b + one + d + two, d + b, d + b + one, b + b, b + one + b, b + d + d,
		b + "insert b 1\n", b + "insert b 1 null null\n", b + "insert b null null\n", b + "insert b '1' null\n", b + "insert b 1 2\n", b + "insert b 01 null\n", b + "insert b +1 null\n",
		b + "insert b  1 null\n", b + "insert b 1 'a b'\n", b + "insert B 1 null\n", b + "clear b\n", b + one + "delete b 1\n", b + one + "update b 1 to 1 null\n", b + "drop b\n",
		b + "add b n int\n", b + "out b x\n", b + "name b x y\n", b + one + "clear b\n" + two, b + "insert b 1 '\xff'\n", b + "insert b 1 \xff\n", b + "\xff\n", b + "# b\n",
		"create b ( k int ) key k\n", "create b ( k int not ) key x\n", "create b ( k int not ) key\n", b + one + "drop b\n" + b, strings.ToUpper(b), strings.ReplaceAll(b+one, "\n", " "), b + one + "insert",
	}
	rows := b
	for i := range impl.MaxRows + 1 {
		rows += "insert b " + strconv.Itoa(i) + " null\n"
	}
	tables := ""
	for i := range impl.MaxTables + 1 {
		tables += "create " + string(rune('a'+i)) + " ( k int not ) key k\n"
	}
	for _, s := range append(l, rows, tables, strings.Repeat(b, 300), b+strings.Repeat(one, 3000), strings.Repeat("\n", 500)) {
		sayNotRead(t, s, impl.TextDb)
	}
}

// storeOfLines is the store that the lines tell, if they tell one.
func storeOfLines(s string) (impl.Db, bool) {
	var d impl.Db
	lines := strings.Split(s, "\n")
	for _, line := range lines[:len(lines)-1] {
		x, ok := impl.TextStmt(line)
		last := len(d.Data) - 1
		switch {
		case ok && x.Ddl.Kind == impl.DdlCreate:
			d.Cat.Tables = append(d.Cat.Tables, impl.Table{Name: x.Table, Cols: x.Ddl.Cols, Keys: x.Ddl.Keys})
			d.Data = append(d.Data, impl.Rows{})
		case ok && x.Kind == impl.StInsert && last >= 0 && d.Cat.Tables[last].Name == x.Table:
			d.Data[last].Rows = append(d.Data[last].Rows, x.Row)
		default:
			return impl.Db{}, false
		}
	}
	return d, impl.DbOk(d) && lines[len(lines)-1] == ""
}

func TestP4TextsNearToStores(t *testing.T) {
	text := "create b ( k int not ) ( x text ) key k\ninsert b 1 null\ninsert b 2 'a%20b'\ncreate d ( k bool not =true ) ( x text ='~' ) key k\ninsert d false null\n"
	is := func(s string) bool {
		_, ok := storeOfLines(s)
		return ok
	}
	sayReadWhere(t, text, is, impl.DbText, impl.TextDb)
	sayReadWhere(t, "", is, impl.DbText, impl.TextDb)
	lines := strings.SplitAfter(strings.TrimSuffix(text, "\n"), "\n")
	lines[len(lines)-1] += "\n"
	for i, line := range lines {
		less := slices.Delete(slices.Clone(lines), i, i+1)
		for j := range len(lines) {
			for _, l := range [][]string{less, slices.Insert(slices.Clone(less), j, line), slices.Insert(slices.Clone(lines), j, line), lines[i:], lines[:j]} {
				s := strings.Join(l, "")
				want, ok := storeOfLines(s)
				if !ok {
					sayNotRead(t, s, impl.TextDb)
					continue
				}
				sayDb(t, want, s)
			}
		}
	}
}

func TestP15ReadThingsAreNewMemory(t *testing.T) {
	text := "create t ( a int not ) ( b int not ) ( c text ) key a b"
	d, _ := impl.TextDdl(text)
	sayApart(t, "TextDdl", colLists("answer", d.Cols, d.Keys))
	e, _ := impl.TextDdl(text)
	if impl.DdlText(e) != text {
		t.Errorf("behind a caller's writing %q is read as %+v", text, e)
	}
	for _, s := range []string{text, "update t 1 2 to 1 2 'c'", "insert t 1 2 'c'", "delete t 1 2", "add t n int =4"} {
		got, ok := impl.TextStmt(s)
		if !ok {
			t.Errorf("%q isn't read", s)
		}
		sayApart(t, "TextStmt of "+s, stmtLists("answer", got))
		if again, _ := impl.TextStmt(s); impl.StmtText(again) != s {
			t.Errorf("behind a caller's writing %q is read as %+v", s, again)
		}
	}
	for _, d := range []impl.Db{plainDb(3, 0, 14), dbOf(catOf(mixedTable()), mixedRows())} {
		got, ok := impl.TextDb(impl.DbText(d))
		if !ok || !same(got, d) {
			t.Errorf("%+v is read as %+v", d, got)
		}
		sayApart(t, "TextDb", append(dbLists("d", d), dbLists("answer", got)...))
	}
	words := impl.Words("a b c")
	sayApart(t, "Words", []list{listOf("answer", words, "junk", showOf[string]), listOf("other", impl.Words("a b c"), "junk", showOf[string])})
}

func TestP15ArgumentsOfTextsStay(t *testing.T) {
	for i, s := range append(rightStmts(), wrongStmts()...) {
		sayUnchanged(t, "statement "+strconv.Itoa(i), stmtLists("s", s), func() {
			impl.StmtText(s)
			impl.DdlText(s.Ddl)
			impl.RowText(s.Row)
		})
	}
	for i, d := range append(rightDbs(), wrongDbs()...) {
		sayUnchanged(t, "store "+strconv.Itoa(i), dbLists("d", d), func() { impl.DbText(d) })
	}
}
