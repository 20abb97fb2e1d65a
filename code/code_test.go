package code_test

import (
	"fmt"
	"math"
	"math/rand"
	"slices"
	"strings"
	"testing"

	"compass/api"
	"compass/code"
	"compass/fail"
)

func TestP801Valid(t *testing.T) {
	for _, n := range valid() {
		same(t, fmt.Sprint("Valid of ", n), code.Valid(n), true)
	}
	for _, n := range invalid() {
		same(t, fmt.Sprint("Valid of ", n), code.Valid(n), false)
	}
	same(t, "Valid of the zero node", code.Valid(api.Node{}), true)
}

func TestP801LayBytes(t *testing.T) {
	tests := []struct {
		l    []api.Node
		want string
	}{
		{nil, ""},
		{[]api.Node{leaf(0)}, "\x00\x00\x00\x00\x00\x00\x00\x00\x00"},
		{[]api.Node{leaf(minusZero)}, "\x00\x00\x00\x00\x00\x00\x00\x00\x80"},
		{[]api.Node{leaf(1)}, "\x00\x00\x00\x00\x00\x00\x00\xf0\x3f"},
		{[]api.Node{leaf(math.Float64frombits(0x0102030405060708))}, "\x00\x08\x07\x06\x05\x04\x03\x02\x01"},
		{[]api.Node{leaf(math.Float64frombits(0x7ff0000000000001))}, "\x00\x01\x00\x00\x00\x00\x00\xf0\x7f"},
		{[]api.Node{leaf(-inf)}, "\x00\x00\x00\x00\x00\x00\x00\xf0\xff"},
		{[]api.Node{op(api.Add, 0, 1)}, "\x01\x00\x00\x01\x00"},
		{[]api.Node{op(api.Sub, 0x0102, 0x0304)}, "\x02\x02\x01\x04\x03"},
		{[]api.Node{op(api.Mul, 65535, 0)}, "\x03\xff\xff\x00\x00"},
		{[]api.Node{op(api.Div, 0, 65535)}, "\x04\x00\x00\xff\xff"},
		{[]api.Node{root(0x0102)}, "\x05\x02\x01"},
		{[]api.Node{root(65535), root(0)}, "\x05\xff\xff\x05\x00\x00"},
		{
			[]api.Node{leaf(2), root(0), op(api.Mul, 1, 1), op(api.Sub, 2, 0)},
			"\x00\x00\x00\x00\x00\x00\x00\x00\x40\x05\x00\x00\x03\x01\x00\x01\x00\x02\x02\x00\x00\x00",
		},
	}
	for _, test := range tests {
		got, err := code.Lay(test.l...)
		sameBytes(t, fmt.Sprint("Lay of ", test.l), got, test.want)
		same(t, fmt.Sprint("error of Lay of ", test.l), err, nil)
		sameBytes(t, fmt.Sprint("what the test takes for Lay of ", test.l), bytesOf(test.l...), test.want)
	}
}

func TestP801LayAllKinds(t *testing.T) {
	for _, n := range valid() {
		got, err := code.Lay(n)
		sameBytes(t, fmt.Sprint("Lay of ", n), got, bytesOf(n))
		same(t, fmt.Sprint("error of Lay of ", n), err, nil)
	}
	l := valid()
	got, err := code.Lay(l...)
	sameBytes(t, "Lay of all", got, bytesOf(l...))
	same(t, "error of Lay of all", err, nil)
	sameNodes(t, "the arguments of Lay", l, valid())
}

func TestP801LayDoesNotCheck(t *testing.T) {
	// Nodes need not be finite, precede their operands or be at most MaxNodes to be laid.
	l := []api.Node{op(api.Add, 7, 8), leaf(nan), root(1)}
	got, err := code.Lay(l...)
	sameBytes(t, "Lay", got, bytesOf(l...))
	same(t, "error", err, nil)
	many := slices.Repeat([]api.Node{root(3)}, api.MaxNodes+5)
	got, err = code.Lay(many...)
	sameBytes(t, "Lay of many", got, strings.Repeat("\x05\x03\x00", api.MaxNodes+5))
	same(t, "error of many", err, nil)
}

func TestP801LayInvalid(t *testing.T) {
	for _, n := range invalid() {
		for i := range 3 {
			l := slices.Insert([]api.Node{leaf(1), root(0)}, i, n)
			got, err := code.Lay(l...)
			sameBytes(t, fmt.Sprint("Lay of ", l), got, "")
			malformedAt(t, fmt.Sprint("Lay of ", l), err, i)
		}
	}
	got, err := code.Lay(root(0), op(9, 0, 0), leaf(1), op(api.Leaf, 1, 0))
	sameBytes(t, "Lay of two that are not Valid", got, "")
	malformedAt(t, "Lay of two that are not Valid", err, 1)
	many := slices.Repeat([]api.Node{root(3)}, api.MaxNodes+5)
	many[api.MaxNodes+4].B = 1
	_, err = code.Lay(many...)
	malformedAt(t, "Lay of many", err, api.MaxNodes+4)
}

func TestP802ReadBytes(t *testing.T) {
	tests := []struct {
		b    string
		want []api.Node
	}{
		{"", nil},
		{"\x01\x00\x00\x01", []api.Node{op(api.Add, 0, 1)}}, // the example of the chapter
		{"\x01\x02\x01\x04\x03", []api.Node{op(api.Add, 0x0102, 0x0304)}},
		{"\x02\xff\xff\xff\xff", []api.Node{op(api.Sub, 65535, 65535)}},
		{"\x05\x02\x01", []api.Node{root(0x0102)}},
		{"\x05\x02\x01\x02", []api.Node{root(0x0102), op(api.Sub, 0, 0)}},
		{"\x00\x08\x07\x06\x05\x04\x03\x02\x01", []api.Node{leaf(math.Float64frombits(0x0102030405060708))}},
		{"\x00\x00\x00\x00\x00\x00\x00\x00\x80", []api.Node{leaf(minusZero)}},
		{"\x00\x01\x00\x00\x00\x00\x00\xf0\x7f", []api.Node{leaf(math.Float64frombits(0x7ff0000000000001))}},
		{"\x00", []api.Node{leaf(0)}},
		{"\x00\x01", []api.Node{leaf(math.SmallestNonzeroFloat64)}},
		{"\x00\x00\x00\x00\x00\x00\x00\xf0", []api.Node{leaf(math.Float64frombits(0xf0 << 48))}},
		{"\x00\x00\x00\x00\x00\x00\x00\x00\x00\x00", []api.Node{leaf(0), leaf(0)}},
		{"\x03", []api.Node{op(api.Mul, 0, 0)}},
		{"\x03\x07", []api.Node{op(api.Mul, 7, 0)}},
		{"\x04\x00\x07", []api.Node{op(api.Div, 0x0700, 0)}},
		{"\x04\x00\x00\x07", []api.Node{op(api.Div, 0, 7)}},
		{"\x05", []api.Node{root(0)}},
		{"\x05\x09", []api.Node{root(9)}},
		{"\x05\x09\x00\x05", []api.Node{root(9), root(0)}},
		{"\x06\x00\x00\x00\x00\x00\x00\xf0\x3f\x0b\x07", []api.Node{leaf(1), root(7)}},
		{"\xff\x01\x00\x02\x00", []api.Node{op(api.Mul, 1, 2)}},
		{"\xfb\x01\x00\x02", []api.Node{root(1), op(api.Sub, 0, 0)}},
	}
	for _, test := range tests {
		sameNodes(t, fmt.Sprintf("Read of %q", test.b), code.Read(test.b), test.want)
		sameNodes(t, fmt.Sprintf("what the test takes for Read of %q", test.b), nodesOf(test.b), test.want)
	}
}

func TestP802ReadKindsModulo6(t *testing.T) {
	const fields = "\x81\x82\x83\x84\x85\x86\x87\x88"
	sizes := []int{8, 4, 4, 4, 4, 2}
	for kind := range 256 {
		want := nodesOf(string([]byte{byte(kind % 6)}) + fields[:sizes[kind%6]])
		same(t, "one node", len(want), 1)
		sameNodes(t, fmt.Sprint("Read of kind ", kind), code.Read(string([]byte{byte(kind)})+fields[:sizes[kind%6]]), want)
	}
}

// longBytes returns a string of n bytes without a visible order, always the same.
func longBytes(r *rand.Rand, n int) string {
	out := make([]byte, n)
	for i := range out {
		out[i] = byte(r.Intn(256))
	}
	return string(out)
}

func TestP802ReadAnyBytes(t *testing.T) {
	check := func(s string) {
		sameNodes(t, fmt.Sprintf("Read of %q", s), code.Read(s), nodesOf(s))
	}
	check("")
	for a := range 256 {
		check(string([]byte{byte(a)}))
		for b := range 256 {
			check(string([]byte{byte(a), byte(b)}))
		}
	}
	r := rand.New(rand.NewSource(1))
	for n := range 300 {
		check(longBytes(r, n))
	}
}

func TestP802ReadReturnsWhatLayTakes(t *testing.T) {
	r := rand.New(rand.NewSource(2))
	for n := range 300 {
		l := code.Read(longBytes(r, n))
		for _, x := range l {
			same(t, fmt.Sprint("Valid of ", x), code.Valid(x), true)
		}
		b, err := code.Lay(l...)
		same(t, "error of Lay of what Read returns", err, nil)
		sameNodes(t, "Read of that", code.Read(b), l)
	}
	for _, n := range valid() {
		l := []api.Node{n, root(1), n, leaf(3)}
		b, err := code.Lay(l...)
		same(t, fmt.Sprint("error of Lay of ", l), err, nil)
		sameNodes(t, fmt.Sprint("Read of Lay of ", l), code.Read(b), l)
	}
}

func TestP802ReadAtMostMaxNodes(t *testing.T) {
	for _, n := range []int{api.MaxNodes - 1, api.MaxNodes, api.MaxNodes + 1, 3 * api.MaxNodes} {
		want := slices.Repeat([]api.Node{root(2)}, min(n, api.MaxNodes))
		sameNodes(t, fmt.Sprint(n, " nodes"), code.Read(strings.Repeat("\x05\x02\x00", n)), want)
	}
	full := strings.Repeat("\x05\x02\x00", api.MaxNodes)
	for _, end := range []string{"\x00", "\x01\x02", "\x05\x09\x09\x05", full} {
		same(t, "nodes of a full string and more", len(code.Read(full+end)), api.MaxNodes)
	}
	short := full[:len(full)-3]
	sameNodes(t, "the last node, cut off", code.Read(short + "\x04\x07")[api.MaxNodes-1:], []api.Node{op(api.Div, 7, 0)})
}

func TestP802ResultsShareNothing(t *testing.T) {
	const b = "\x05\x02\x00\x01\x00\x00\x01"
	first := code.Read(b)
	want := slices.Clone(first)
	clear(code.Read(b))
	sameNodes(t, "the first result", first, want)
}

func TestP803CheckNil(t *testing.T) {
	tests := [][]api.Node{
		nil,
		{},
		{leaf(1)},
		{leaf(minusZero), leaf(math.MaxFloat64), leaf(-math.SmallestNonzeroFloat64)},
		{leaf(1), op(api.Add, 0, 0), op(api.Sub, 1, 0), op(api.Mul, 0, 2), op(api.Div, 3, 3), root(4)},
		{leaf(-1), root(0), root(1), leaf(0), op(api.Div, 0, 3)}, // what has no value may still be well formed
	}
	for _, l := range tests {
		same(t, fmt.Sprint("Check of ", l), code.Check(l...), nil)
	}
	for i := 1; i < 6; i++ {
		// A node may refer to each of those before it.
		for a := range i {
			for _, kind := range binaries() {
				l := append(slices.Repeat([]api.Node{leaf(2)}, i), op(kind, a, i-1), op(kind, i-1, a), root(a))
				same(t, fmt.Sprint("Check of ", l), code.Check(l...), nil)
			}
		}
	}
}

func TestP803CheckMalformed(t *testing.T) {
	for _, n := range invalid() {
		for i := range 3 {
			l := slices.Insert([]api.Node{leaf(1), leaf(2)}, i, n)
			malformedAt(t, fmt.Sprint("Check of ", l), code.Check(l...), i)
		}
	}
	for _, v := range []float64{inf, -inf, nan, -nan, math.Float64frombits(0x7ff0000000000001)} {
		malformedAt(t, fmt.Sprint("Check of ", v), code.Check(leaf(v)), 0)
		malformedAt(t, fmt.Sprint("Check of 1 and ", v), code.Check(leaf(1), leaf(v), leaf(1)), 1)
	}
}

func TestP803CheckOperands(t *testing.T) {
	for i := range 5 {
		before := slices.Repeat([]api.Node{leaf(2)}, i)
		for _, a := range []int{i, i + 1, i + 2, 300, 20000, 65535} {
			// There are nodes with the index a, but not before this one.
			check := func(n api.Node) {
				l := append(append(slices.Clone(before), n), slices.Repeat([]api.Node{leaf(3)}, 4)...)
				malformedAt(t, fmt.Sprint("Check of ", l), code.Check(l...), i)
			}
			check(root(a))
			for _, kind := range binaries() {
				check(op(kind, a, a))
				check(op(kind, a, 0))
				check(op(kind, 0, a))
			}
		}
	}
}

func TestP803CheckFirst(t *testing.T) {
	bad := []api.Node{leaf(nan), root(65535), op(api.Add, 0, 9), op(7, 0, 0), op(api.Leaf, 0, 1)}
	for _, a := range bad {
		for _, b := range bad {
			l := []api.Node{leaf(1), root(0), a, leaf(2), b}
			malformedAt(t, fmt.Sprint("Check of ", l), code.Check(l...), 2)
		}
	}
}

func TestP803CheckLimit(t *testing.T) {
	many := slices.Repeat([]api.Node{leaf(2)}, api.MaxNodes)
	same(t, "MaxNodes nodes", code.Check(many...), nil)
	many[api.MaxNodes-1] = op(api.Mul, api.MaxNodes-2, api.MaxNodes-2)
	same(t, "MaxNodes nodes and an operation", code.Check(many...), nil)
	many[api.MaxNodes-1].B++
	malformedAt(t, "the last of MaxNodes nodes", code.Check(many...), api.MaxNodes-1)
	same(t, "MaxNodes+1 nodes", code.Check(append(many, leaf(2))...), fail.Limit())
	many[0] = leaf(nan)
	malformedAt(t, "the first of MaxNodes nodes", code.Check(many...), 0)
	same(t, "MaxNodes+1 nodes that are malformed", code.Check(append(many, leaf(nan))...), fail.Limit())
	same(t, "MaxNodes+1 nodes of no kind", code.Check(slices.Repeat([]api.Node{op(6, 0, 0)}, api.MaxNodes+1)...), fail.Limit())
}

func TestP803CheckChangesNothing(t *testing.T) {
	l := valid()
	code.Check(l...)
	sameNodes(t, "the arguments of Check", l, valid())
}
