package impl

import (
	"strconv"
	"strings"
)

const MaxNum = 1099511627775
const MaxStr = 30
const TyNull = 0
const TyBool = 1
const TyInt = 2
const TyText = 3

type Val struct {
	Ty int
	N  int
	S  string
}

const maxWord = 8
const hexDigits = "0123456789abcdef"

// value is a right Val within the program: a kind for each type, so that
// nobody has to ask again whether the fields fit one another.
type value interface {
	val() Val
	text() string
}

type nullValue struct{}
type boolValue bool
type intValue int
type textValue string

func (nullValue) val() Val { return Val{} }

func (b boolValue) val() Val {
	if b {
		return Val{Ty: TyBool, N: 1}
	}
	return Val{Ty: TyBool}
}

func (n intValue) val() Val { return Val{Ty: TyInt, N: int(n)} }

func (s textValue) val() Val { return Val{Ty: TyText, S: string(s)} }

func (nullValue) text() string { return "null" }

func (b boolValue) text() string {
	if b {
		return "true"
	}
	return "false"
}

func (n intValue) text() string { return NumText(int(n)) }

func (s textValue) text() string {
	out := []byte{'\''}
	for i := 0; i < len(s); i++ {
		if plainByte(s[i]) {
			out = append(out, s[i])
		} else {
			out = append(out, '%', hexDigits[s[i]/16], hexDigits[s[i]%16])
		}
	}
	return string(append(out, '\''))
}

func plainByte(c byte) bool {
	return c >= 33 && c <= 126 && c != '\'' && c != '%'
}

func numOk(n int) bool { return n >= -MaxNum && n <= MaxNum }

// within gives the value of v; it counts only beside a true.
func within(v Val) (value, bool) {
	switch v.Ty {
	case TyNull:
		return nullValue{}, v.N == 0 && v.S == ""
	case TyBool:
		return boolValue(v.N == 1), (v.N == 0 || v.N == 1) && v.S == ""
	case TyInt:
		return intValue(v.N), numOk(v.N) && v.S == ""
	case TyText:
		return textValue(v.S), v.N == 0 && len(v.S) <= MaxStr
	}
	return nullValue{}, false
}

func ValOk(v Val) bool {
	_, ok := within(v)
	return ok
}

func ValLess(a Val, b Val) bool {
	if !ValOk(a) || !ValOk(b) {
		return false
	}
	if a.Ty != b.Ty {
		return a.Ty < b.Ty
	}
	if a.N != b.N {
		return a.N < b.N
	}
	return a.S < b.S
}

func Cast(v Val, ty int) (Val, bool) {
	from, ok := within(v)
	if !ok {
		return Val{}, false
	}
	to, ok := castValue(from, ty)
	if !ok {
		return Val{}, false
	}
	return to.val(), true
}

func castValue(v value, ty int) (value, bool) {
	switch ty {
	case TyBool:
		return castBool(v)
	case TyInt:
		return castInt(v)
	case TyText:
		return castText(v)
	}
	return nullValue{}, false
}

func castBool(v value) (value, bool) {
	switch x := v.(type) {
	case nullValue, boolValue:
		return x, true
	case intValue:
		return boolValue(x == 1), x == 0 || x == 1
	case textValue:
		return boolValue(x == "true"), x == "true" || x == "false"
	}
	return nullValue{}, false
}

func castInt(v value) (value, bool) {
	switch x := v.(type) {
	case nullValue, intValue:
		return x, true
	case boolValue:
		return intValue(x.val().N), true
	case textValue:
		n, ok := TextNum(string(x))
		return intValue(n), ok
	}
	return nullValue{}, false
}

func castText(v value) (value, bool) {
	switch x := v.(type) {
	case nullValue, textValue:
		return x, true
	case boolValue, intValue:
		return textValue(x.text()), true
	}
	return nullValue{}, false
}

func NumText(n int) string {
	if !numOk(n) {
		return ""
	}
	return strconv.Itoa(n)
}

// TextNum holds the number's text against s, for the library also reads a
// '+', a '0' ahead, "-0" and what is too great.
func TextNum(s string) (int, bool) {
	n, err := strconv.Atoi(s)
	if err != nil || NumText(n) != s {
		return 0, false
	}
	return n, true
}

func ValText(v Val) string {
	x, ok := within(v)
	if !ok {
		return ""
	}
	return x.text()
}

// TextVal holds the value's text against s, for readValue also takes a text
// that is too long or has no closing quote, a byte behind a '%' that needs
// none, and one without a '%' that needs it.
func TextVal(s string) (Val, bool) {
	x, ok := readValue(s)
	if !ok || ValText(x.val()) != s {
		return Val{}, false
	}
	return x.val(), true
}

func readValue(s string) (value, bool) {
	switch s {
	case "null":
		return nullValue{}, true
	case "true", "false":
		return boolValue(s == "true"), true
	}
	if strings.HasPrefix(s, "'") {
		inner, ok := unescape(strings.TrimSuffix(s[1:], "'"))
		return textValue(inner), ok
	}
	n, ok := TextNum(s)
	return intValue(n), ok
}

func unescape(s string) (string, bool) {
	var out []byte
	for i := 0; i < len(s); i++ {
		if s[i] != '%' {
			out = append(out, s[i])
			continue
		}
		c, ok := hexByte(s[i+1:])
		if !ok {
			return "", false
		}
		out = append(out, c)
		i += 2
	}
	return string(out), true
}

func hexByte(s string) (byte, bool) {
	if len(s) < 2 {
		return 0, false
	}
	high := strings.IndexByte(hexDigits, s[0])
	low := strings.IndexByte(hexDigits, s[1])
	if high < 0 || low < 0 {
		return 0, false
	}
	return byte(high*16 + low), true
}

func WordOk(s string) bool {
	if len(s) < 1 || len(s) > maxWord {
		return false
	}
	for i := 0; i < len(s); i++ {
		if s[i] < 'a' || s[i] > 'z' {
			return false
		}
	}
	return true
}
