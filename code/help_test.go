package code_test

import (
	"encoding/binary"
	"math"
	"slices"
	"testing"

	"compass/api"
	"compass/fail"
)

const minInt, maxInt = math.MinInt, math.MaxInt

var (
	inf       = math.Inf(1)
	nan       = math.NaN()
	minusZero = math.Copysign(0, -1)
)

func leaf(v float64) api.Node { return api.Node{Kind: api.Leaf, Value: v} }

func op(kind, a, b int) api.Node { return api.Node{Kind: kind, A: a, B: b} }

func root(a int) api.Node { return api.Node{Kind: api.Root, A: a} }

// binaries returns the kinds with two operands.
func binaries() []int { return []int{api.Add, api.Sub, api.Mul, api.Div} }

// values returns float64 numbers of all sorts, each told from the others by its bits.
func values() []float64 {
	return []float64{
		0, minusZero, 1, -1, 0.1, -7.25, math.Pi, math.SmallestNonzeroFloat64, -0x1p-1022, math.MaxFloat64, -math.MaxFloat64,
		inf, -inf, nan, -nan, math.Float64frombits(0x7ff0000000000001), math.Float64frombits(0xfff123456789abcd),
		math.Float64frombits(0x0102030405060708), math.Float64frombits(0xfffffffffffffffe),
	}
}

// valid returns Valid nodes of all kinds, with fields at both ends of what they may be.
func valid() []api.Node {
	var out []api.Node
	for _, v := range values() {
		out = append(out, leaf(v))
	}
	operands := []int{0, 1, 2, 127, 128, 255, 256, 258, 0x1234, 19999, 20000, 32767, 32768, 65534, 65535}
	for _, a := range operands {
		out = append(out, root(a))
		for _, kind := range binaries() {
			out = append(out, op(kind, a, 0), op(kind, 0, a), op(kind, a, 65535-a))
		}
	}
	return out
}

// invalid returns nodes that are not Valid, each for one reason only.
func invalid() []api.Node {
	out := []api.Node{
		{Kind: -1}, {Kind: 6}, {Kind: 7}, {Kind: 256}, {Kind: -6}, {Kind: minInt}, {Kind: maxInt}, {Kind: 1 << 32},
		{Kind: 6, Value: 1}, {Kind: 6, A: 1}, {Kind: 6, A: 1, B: 2},
	}
	wrong := []int{-1, 65536, 65537, -65536, 1 << 32, minInt, maxInt}
	for _, a := range append(wrong, 1, 65535) {
		out = append(out, op(api.Leaf, a, 0), op(api.Leaf, 0, a), api.Node{Value: 2.5, A: a}, op(api.Root, 0, a))
	}
	for _, a := range wrong {
		out = append(out, root(a))
		for _, kind := range binaries() {
			out = append(out, op(kind, a, 0), op(kind, 0, a), op(kind, 65535, a))
		}
	}
	for _, v := range values()[1:] {
		out = append(out, api.Node{Kind: api.Root, Value: v})
		for _, kind := range binaries() {
			out = append(out, api.Node{Kind: kind, Value: v, A: 1, B: 2})
		}
	}
	return out
}

// bytesOf returns what Lay must return for nodes that are all Valid.
func bytesOf(l ...api.Node) string {
	var out []byte
	for _, n := range l {
		out = append(out, byte(n.Kind))
		if n.Kind == api.Leaf {
			out = binary.LittleEndian.AppendUint64(out, math.Float64bits(n.Value))
			continue
		}
		out = binary.LittleEndian.AppendUint16(out, uint16(n.A))
		if n.Kind != api.Root {
			out = binary.LittleEndian.AppendUint16(out, uint16(n.B))
		}
	}
	return string(out)
}

// nodesOf returns what Read must return: it takes a byte at a time, a 0 where there is none any more.
func nodesOf(b string) []api.Node {
	next := func() uint64 {
		if b == "" {
			return 0
		}
		out := uint64(b[0])
		b = b[1:]
		return out
	}
	operand := func() int {
		low := next()
		return int(low + 256*next())
	}
	var out []api.Node
	for b != "" && len(out) < 20000 {
		n := api.Node{Kind: int(next() % 6)}
		switch {
		case n.Kind == api.Leaf:
			var bits uint64
			for i := range 8 {
				bits += next() << (8 * i)
			}
			n.Value = math.Float64frombits(bits)
		case n.Kind == api.Root:
			n.A = operand()
		default:
			n.A = operand()
			n.B = operand()
		}
		out = append(out, n)
	}
	return out
}

// equal tells whether two nodes are the same, their Values by their bits.
func equal(a, b api.Node) bool {
	return a.Kind == b.Kind && a.A == b.A && a.B == b.B && math.Float64bits(a.Value) == math.Float64bits(b.Value)
}

func sameNodes(t *testing.T, what string, got, want []api.Node) {
	t.Helper()
	if !slices.EqualFunc(got, want, equal) {
		t.Errorf("%s: got %v, want %v", what, got, want)
	}
}

func sameBytes(t *testing.T, what, got, want string) {
	t.Helper()
	if got != want {
		t.Errorf("%s: got %q, want %q", what, got, want)
	}
}

// malformedAt checks that err is Node(index, Malformed()), wrapped in nothing.
func malformedAt(t *testing.T, what string, err error, index int) {
	t.Helper()
	at, ok := err.(*fail.At)
	if !ok || at == nil || at.Index != index || at.Err != fail.Malformed() {
		t.Errorf("%s: got %v, want node %d: malformed", what, err, index)
	}
}

func same[T comparable](t *testing.T, what string, got, want T) {
	t.Helper()
	if got != want {
		t.Errorf("%s: got %v, want %v", what, got, want)
	}
}
