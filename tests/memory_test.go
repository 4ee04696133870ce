package tests

import (
	"fmt"
	"slices"
	"testing"
)

// A list of an argument or of an answer: view tells all that its memory holds,
// up to its capacity; spoil writes over all of that.
type list struct {
	name  string
	view  func() string
	spoil func()
}

func listOf[T any](name string, l []T, junk T, show func(T) string) list {
	l = l[:cap(l)]
	view := func() string {
		s := ""
		for _, x := range l {
			s += show(x) + ";"
		}
		return s
	}
	spoil := func() {
		for i := range l {
			l[i] = junk
		}
	}
	return list{name, view, spoil}
}

func showOf[T any](x T) string { return fmt.Sprintf("%+v", x) }

// same says whether two things are equal, a nil list being an empty one.
func same(a any, b any) bool { return fmt.Sprintf("%+v", a) == fmt.Sprintf("%+v", b) }

// roomy gives the same elements with memory behind them that an append would
// write into.
func roomy[T any](l []T) []T { return append(make([]T, 0, len(l)+3), l...) }

func views(l []list) []string {
	var out []string
	for _, x := range l {
		out = append(out, x.view())
	}
	return out
}

// sayUnchanged runs the call and says so where a list holds something else behind it.
func sayUnchanged(t *testing.T, what string, l []list, call func()) {
	t.Helper()
	before := views(l)
	call()
	for i, v := range views(l) {
		if v != before[i] {
			t.Errorf("%s: %s was %s and is %s", what, l[i].name, before[i], v)
		}
	}
}

// sayApart writes over one list after the other and says so where another one shows it.
func sayApart(t *testing.T, what string, l []list) {
	t.Helper()
	for i, x := range l {
		others := append(slices.Clone(l[:i]), l[i+1:]...)
		sayUnchanged(t, what+", writing into "+x.name, others, x.spoil)
	}
}

// sayNoneShared is sayApart where the arguments may share memory among themselves.
func sayNoneShared(t *testing.T, what string, args []list, answer []list) {
	t.Helper()
	for _, x := range args {
		sayUnchanged(t, what+", writing into "+x.name, answer, x.spoil)
	}
	for i, x := range answer {
		others := slices.Concat(args, answer[:i], answer[i+1:])
		sayUnchanged(t, what+", writing into "+x.name, others, x.spoil)
	}
}
