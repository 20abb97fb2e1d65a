package fail_test

import (
	"errors"
	"math"
	"strconv"
	"strings"
	"testing"

	"compass/fail"
)

func TestP601TextsOfTheKinds(t *testing.T) {
	for i, err := range kinds() {
		same(t, "text", err.Error(), texts()[i])
	}
}

func TestP601KindsAreTold(t *testing.T) {
	for i, a := range kinds() {
		for k, b := range kinds() {
			what := texts()[i] + " is " + texts()[k]
			same(t, what, errors.Is(a, b), i == k)
			same(t, what+", wrapped", errors.Is(fail.In("there", fail.Node(3, a)), b), i == k)
			same(t, what+", the other one wrapped", errors.Is(a, fail.In("there", b)), false)
		}
		same(t, texts()[i]+" is nil", errors.Is(a, nil), false)
	}
}

func TestP601KindsAreNoErrorsOfTheSameText(t *testing.T) {
	for i, err := range kinds() {
		other := errors.New(texts()[i])
		same(t, texts()[i], errors.Is(other, err) || errors.Is(err, other), false)
	}
}

func TestP602NodeIsFound(t *testing.T) {
	for i, err := range kinds() {
		node := fail.Node(i-3, err)
		at, ok := node.(*fail.At)
		if !ok || at == nil {
			t.Fatalf("Node returns %T, not an *At", node)
		}
		same(t, "Index", at.Index, i-3)
		same(t, "Err", at.Err, err)
		same(t, "Unwrap", at.Unwrap(), err)
		same(t, "errors.Unwrap", errors.Unwrap(node), err)

		var found *fail.At
		same(t, "errors.As", errors.As(fail.In("a", fail.In("b", node)), &found), true)
		same(t, "what errors.As finds", found, at)
	}
}

func TestP602NodeText(t *testing.T) {
	for _, index := range []int{0, 1, -1, 9, 10, -10, 65536, math.MaxInt, math.MinInt} {
		want := "node " + strconv.Itoa(index) + ": "
		same(t, "text", fail.Node(index, fail.Limit()).Error(), want+"limit")
		same(t, "text without a kind", fail.Node(index, nil).Error(), want+"none")
	}
	same(t, "text at math.MinInt", fail.Node(math.MinInt, fail.Limit()).Error(), "node -9223372036854775808: limit")
	same(t, "text of two", fail.Node(1, fail.Node(-2, fail.Script())).Error(), "node 1: node -2: no script")
	same(t, "text of another", fail.Node(4, errors.New("50% off")).Error(), "node 4: 50% off")
	same(t, "text of one within", fail.Node(4, fail.In("here", fail.Invalid())).Error(), "node 4: here: invalid")
}

func TestP602NodesAreNew(t *testing.T) {
	a, b := fail.Node(1, fail.Limit()), fail.Node(1, fail.Limit())
	same(t, "equal nodes match", errors.Is(a, b), false)
	a.(*fail.At).Index = 7
	checkWhere(t, "the other node", b, 1, true)
}

func TestP602NilAt(t *testing.T) {
	var at *fail.At
	same(t, "text", at.Error(), "none")
	same(t, "Unwrap", at.Unwrap(), nil)
	same(t, "Code", fail.Code(at), 8)
	checkWhere(t, "a nil *At", at, 0, false)
	checkWhere(t, "a nil *At within", fail.In("a", at), 0, false)
	checkWhere(t, "a nil *At ahead of another", both{at, fail.Node(3, nil)}, 0, false)
	checkWhere(t, "an *At of a nil one", fail.Node(6, at), 6, true)
	same(t, "text of an *At of a nil one", fail.Node(6, at).Error(), "node 6: none")
	same(t, "text of a nil *At within", fail.In("a", at).Error(), "a: none")
}

func TestP602AtOfLiterals(t *testing.T) {
	at := &fail.At{Index: 5, Err: fail.Degenerate()}
	same(t, "text", at.Error(), "node 5: degenerate")
	same(t, "Code", fail.Code(at), 5)
	checkWhere(t, "a literal", at, 5, true)
	same(t, "text of the zero At", new(fail.At).Error(), "node 0: none")
	same(t, "Unwrap of the zero At", new(fail.At).Unwrap(), nil)
}

func TestP602InNil(t *testing.T) {
	same(t, "In of nil", fail.In("a", nil), nil)
	same(t, "In of In of nil", fail.In("a", fail.In("b", nil)), nil)
}

func TestP602InWraps(t *testing.T) {
	other := errors.New("other")
	for _, err := range append(kinds(), other, fail.Node(3, fail.Limit())) {
		for _, what := range []string{"sign", "", "a: b", "100%s", "\x00\xff"} {
			in := fail.In(what, err)
			same(t, "text", in.Error(), what+": "+err.Error())
			same(t, "errors.Unwrap", errors.Unwrap(in), err)
			same(t, "errors.Is", errors.Is(in, err), true)
			same(t, "Code", fail.Code(in), fail.Code(err))
		}
	}
	same(t, "errors.Is of another", errors.Is(fail.In("a", errors.New("other")), other), false)
	same(t, "text of two", fail.In("a", fail.In("b", fail.NegRoot())).Error(), "a: b: root of a negative number")
	same(t, "In of the same", errors.Is(fail.In("a", other), fail.In("a", other)), false)
}

func TestP602Example(t *testing.T) {
	err := fail.In("sign", fail.Node(3, fail.NegRoot()))
	same(t, "Code", fail.Code(err), 3)
	checkWhere(t, "the example", err, 3, true)
	same(t, "text", err.Error(), "sign: node 3: root of a negative number")
}

func TestP602Code(t *testing.T) {
	same(t, "nil", fail.Code(nil), 0)
	for i, err := range kinds() {
		same(t, texts()[i], fail.Code(err), i+1)
		same(t, texts()[i]+" in", fail.Code(fail.In("a", fail.In("b", err))), i+1)
		same(t, texts()[i]+" at a node", fail.Code(fail.Node(2, fail.Node(1, err))), i+1)
		same(t, texts()[i]+" of another package", fail.Code(errors.Join(errors.New("x"), err)), i+1)
		same(t, texts()[i]+" by its text", fail.Code(errors.New(texts()[i])), 8)
	}
	same(t, "another", fail.Code(errors.New("")), 8)
	same(t, "a node without a kind", fail.Code(fail.Node(1, nil)), 8)
	same(t, "another in", fail.Code(fail.In("a", errors.New("x"))), 8)
	same(t, "no errors", fail.Code(both{}), 8)
}

func TestP602CodeIsTheFirstThatMatches(t *testing.T) {
	for i, a := range kinds() {
		for k, b := range kinds() {
			same(t, texts()[i]+" and "+texts()[k], fail.Code(both{fail.Node(1, a), fail.In("a", b)}), min(i, k)+1)
		}
	}
	same(t, "one that matches all", fail.Code(alike{}), 1)
	same(t, "a later one that matches all", fail.Code(both{fail.Limit(), alike{}}), 1)
}

func TestP602Where(t *testing.T) {
	checkWhere(t, "nil", nil, 0, false)
	for i, err := range kinds() {
		checkWhere(t, texts()[i], err, 0, false)
		checkWhere(t, texts()[i]+" in", fail.In("a", err), 0, false)
	}
	checkWhere(t, "another", errors.New("node 3: limit"), 0, false)
	for _, index := range []int{0, 5, -5, math.MaxInt, math.MinInt} {
		checkWhere(t, "a node", fail.Node(index, fail.Limit()), index, true)
		checkWhere(t, "a node without a kind", fail.Node(index, nil), index, true)
		checkWhere(t, "a node in", fail.In("a", fail.In("b", fail.Node(index, errors.New("x")))), index, true)
		checkWhere(t, "the first node", fail.Node(index, fail.Node(6, fail.Limit())), index, true)
		checkWhere(t, "the first node of several", both{fail.Limit(), fail.In("a", fail.Node(index, nil)), fail.Node(8, nil)}, index, true)
	}
}

// The text is so long that to copy it once for each level would take hours.
func TestP602DeepNesting(t *testing.T) {
	const half = 1 << 15
	what := strings.Repeat("a", 1000)
	err := fail.Script()
	want := make([]string, half)
	for i := range half {
		err = fail.In(what, fail.Node(i, err))
		want[half-1-i] = what + ": node " + strconv.Itoa(i) + ": "
	}
	same(t, "Code", fail.Code(err), 6)
	checkWhere(t, "deep nesting", err, half-1, true)
	same(t, "text", err.Error() == strings.Join(want, "")+"no script", true)
}

func TestErrorsOfOtherPackagesMayPanic(t *testing.T) {
	var err *nobody
	same(t, "Code", fail.Code(err), 8)
	same(t, "Code in", fail.Code(fail.In("a", err)), 8)
	checkWhere(t, "a nil pointer", err, 0, false)
	checkWhere(t, "a node of it", fail.Node(2, err), 2, true)
	same(t, "text at a node", fail.Node(2, err).Error(), "node 2: none")
	same(t, "text in", fail.In("a", err).Error(), "a: none")
}
