package fail_test

import (
	"testing"

	"compass/fail"
)

// kinds returns new results of the seven functions, in the order of their codes.
func kinds() []error {
	return []error{
		fail.Malformed(), fail.DivByZero(), fail.NegRoot(), fail.Invalid(),
		fail.Degenerate(), fail.Script(), fail.Limit(),
	}
}

func texts() []string {
	return []string{
		"malformed", "division by zero", "root of a negative number", "invalid",
		"degenerate", "no script", "limit",
	}
}

// both wraps several errors.
type both []error

func (b both) Error() string   { return "both" }
func (b both) Unwrap() []error { return b }

// alike matches every error.
type alike struct{}

func (alike) Error() string { return "alike" }
func (alike) Is(error) bool { return true }

// nobody is an error that panics whatever it is asked, if it is a nil pointer.
type nobody struct{ text string }

func (n *nobody) Error() string { return n.text }
func (n *nobody) Is(error) bool { return n.text == "" }
func (n *nobody) As(any) bool   { return n.text == "" }
func (n *nobody) Unwrap() error { return fail.Malformed() }

// checkWhere checks what Where returns.
func checkWhere(t *testing.T, what string, err error, index int, ok bool) {
	t.Helper()
	gotIndex, gotOk := fail.Where(err)
	if gotIndex != index || gotOk != ok {
		t.Errorf("Where of %s: got %d, %v, want %d, %v", what, gotIndex, gotOk, index, ok)
	}
}

func same[T comparable](t *testing.T, what string, got, want T) {
	t.Helper()
	if got != want {
		t.Errorf("%s: got %v, want %v", what, got, want)
	}
}
