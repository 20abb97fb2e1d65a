package dag_test

import (
	"math"
	"slices"
	"testing"

	"compass/api"
	"compass/dag"
	"compass/fail"
)

const minInt, maxInt = math.MinInt, math.MaxInt

var (
	inf       = math.Inf(1)
	nan       = math.NaN()
	minusZero = math.Copysign(0, -1)
)

func leaf(v float64) api.Node { return api.Node{Kind: api.Leaf, Value: v} }

func op(kind, a, b int) api.Node { return api.Node{Kind: kind, A: a, B: b} }

func root(a int) api.Node { return api.Node{Kind: api.Root, A: a} }

// binaries returns the kinds with two operands.
func binaries() []int { return []int{api.Add, api.Sub, api.Mul, api.Div} }

// finite returns finite float64 numbers of all sorts, no two with the same bits.
func finite() []float64 {
	return []float64{
		0, minusZero, 1, -1, 0.1, 1.0000000000000002, math.SmallestNonzeroFloat64, -math.SmallestNonzeroFloat64,
		-0x1p-1022, math.MaxFloat64, -math.MaxFloat64, 0x1p53,
	}
}

// infinite returns float64 numbers that are not finite.
func infinite() []float64 {
	return []float64{inf, -inf, nan, -nan, math.Float64frombits(0x7ff0000000000001), math.Float64frombits(0xfff123456789abcd)}
}

// unfit returns nodes that may not be put into a Dag with that many nodes, of which there is at least one, each
// for one reason only.
func unfit(count int) []api.Node {
	var out []api.Node
	for _, v := range infinite() {
		out = append(out, leaf(v))
	}
	for _, kind := range []int{-1, 6, 7, 256, -6, minInt, maxInt, 1 << 32} {
		out = append(out, api.Node{Kind: kind})
	}
	for _, a := range []int{count, count + 1, 32768, 65535, 65536, 1 << 32, maxInt, -1, -2, minInt} {
		out = append(out, root(a))
		for _, kind := range binaries() {
			out = append(out, op(kind, a, 0), op(kind, 0, a), op(kind, a, a))
		}
	}
	for _, a := range []int{1, -1, count, 65535} {
		out = append(out, op(api.Leaf, a, 0), op(api.Leaf, 0, a), op(api.Root, 0, a))
	}
	for _, v := range []float64{1, minusZero, nan} {
		out = append(out, api.Node{Kind: api.Root, Value: v})
		for _, kind := range binaries() {
			out = append(out, api.Node{Kind: kind, Value: v})
		}
	}
	return out
}

// equal tells whether two nodes are the same, their Values by their bits.
func equal(a, b api.Node) bool {
	return a.Kind == b.Kind && a.A == b.A && a.B == b.B && math.Float64bits(a.Value) == math.Float64bits(b.Value)
}

func sameNodes(t *testing.T, what string, got, want []api.Node) {
	t.Helper()
	if !slices.EqualFunc(got, want, equal) {
		t.Errorf("%s: got %v, want %v", what, got, want)
	}
}

func sameIds(t *testing.T, what string, got, want []int) {
	t.Helper()
	if !slices.Equal(got, want) {
		t.Errorf("%s: got %v, want %v", what, got, want)
	}
}

// malformedAt checks that err is Node(index, Malformed()), wrapped in nothing.
func malformedAt(t *testing.T, what string, err error, index int) {
	t.Helper()
	at, ok := err.(*fail.At)
	if !ok || at == nil || at.Index != index || at.Err != fail.Malformed() {
		t.Errorf("%s: got %v, want node %d: malformed", what, err, index)
	}
}

// put checks that d puts n without an error, under this id.
func put(t *testing.T, what string, d *dag.Dag, n api.Node, want int) {
	t.Helper()
	id, err := d.Put(n)
	if id != want || err != nil {
		t.Errorf("%s: Put of %v: got %d and %v, want %d", what, n, id, err, want)
	}
}

// refuses checks that d does not put n, since it is malformed, and stays as it is.
func refuses(t *testing.T, what string, d *dag.Dag, n api.Node) {
	t.Helper()
	count := d.Len()
	id, err := d.Put(n)
	same(t, what+": id", id, -1)
	malformedAt(t, what, err, count)
	same(t, what+": Len", d.Len(), count)
}

// full returns a Dag with MaxNodes nodes, all of them different.
func full(t *testing.T, share bool) *dag.Dag {
	t.Helper()
	d := dag.New(share)
	for i := range api.MaxNodes {
		put(t, "full", d, leaf(float64(i)), i)
	}
	return d
}

// model is a second Dag, whose equal nodes are searched for.
type model struct {
	share bool
	nodes []api.Node
}

func (m *model) exists(id int) bool { return id >= 0 && id < len(m.nodes) }

// put returns what Put must return: the id, or -1 and whether the node is malformed (and otherwise beyond the limit).
func (m *model) put(n api.Node) (int, bool) {
	good := false
	switch {
	case n.Kind == api.Leaf:
		good = n.A == 0 && n.B == 0 && n.Value-n.Value == 0
	case n.Kind == api.Root:
		good = math.Float64bits(n.Value) == 0 && m.exists(n.A) && n.B == 0
	case slices.Contains(binaries(), n.Kind):
		good = math.Float64bits(n.Value) == 0 && m.exists(n.A) && m.exists(n.B)
	}
	if !good {
		return -1, true
	}
	if m.share {
		for id, o := range m.nodes {
			if equal(n, o) {
				return id, false
			}
		}
	}
	if len(m.nodes) == 20000 {
		return -1, false
	}
	m.nodes = append(m.nodes, n)
	return len(m.nodes) - 1, false
}

func same[T comparable](t *testing.T, what string, got, want T) {
	t.Helper()
	if got != want {
		t.Errorf("%s: got %v, want %v", what, got, want)
	}
}
