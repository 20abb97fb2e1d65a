package walk_test

import (
	"maps"
	"math"
	"math/rand"
	"slices"
	"testing"

	"compass/api"
	"compass/dag"
	"compass/walk"
)

const minInt, maxInt = math.MinInt, math.MaxInt

// noIds returns numbers that are no ids of a Dag with that many nodes.
func noIds(count int) []int {
	return []int{count, count + 1, api.MaxNodes, 65536, 1 << 32, maxInt, -1, -2, -count - 1, minInt}
}

// sum returns the numbers of a Dag that has sqrt(2), its square, less 2, and sqrt of the sum of the two, and 5.
func sum(share bool) (d *dag.Dag, two, x, xx, z, five, y, r int) {
	d = dag.New(share)
	two = d.Leaf(2)
	x = d.Root(two)
	xx = d.Mul(x, x)
	z = d.Sub(xx, two)
	five = d.Leaf(5)
	y = d.Add(x, z)
	r = d.Root(y)
	return
}

// anyDag returns a Dag with that many nodes at most, which refer to any that precede them, or mostly to the last.
func anyDag(r *rand.Rand, share bool, count int) *dag.Dag {
	d := dag.New(share)
	d.Leaf(1)
	reach := 1 + r.Intn(count)
	for range count - 1 {
		operand := func() int { return d.Len() - 1 - r.Intn(min(d.Len(), reach)) }
		switch kind := r.Intn(7); kind {
		case api.Leaf:
			d.Leaf(float64(r.Intn(20)))
		case api.Root, 6:
			d.Root(operand())
		default:
			d.Put(api.Node{Kind: kind, A: operand(), B: operand()})
		}
	}
	return d
}

// model walks through a copy of a Dag's nodes, from the last to the first.
type model struct{ nodes []api.Node }

func (m model) operands(id int) []int {
	n := m.nodes[id]
	return [][]int{{}, {n.A, n.B}, {n.A, n.B}, {n.A, n.B}, {n.A, n.B}, {n.A}}[n.Kind]
}

func (m model) below(roots ...int) []int {
	in := make([]bool, len(m.nodes))
	for _, id := range roots {
		if id >= 0 && id < len(in) {
			in[id] = true
		}
	}
	var out []int
	for id := len(in) - 1; id >= 0; id-- {
		if !in[id] {
			continue
		}
		out = append(out, id)
		for _, o := range m.operands(id) {
			in[o] = true
		}
	}
	slices.Reverse(out)
	return out
}

func (m model) roots(root int) int {
	count := 0
	for _, id := range m.below(root) {
		if m.nodes[id].Kind == api.Root {
			count++
		}
	}
	return count
}

func (m model) uses(root int) map[int]int {
	below := m.below(root)
	out := map[int]int{}
	for _, id := range below {
		out[id] = 0
		for _, user := range below {
			for _, o := range m.operands(user) {
				if o == id {
					out[id]++
				}
			}
		}
	}
	return out
}

// depths returns the depths of all ids.
func (m model) depths() []int {
	out := make([]int, len(m.nodes))
	for id := range out {
		for _, o := range m.operands(id) {
			out[id] = max(out[id], out[o]+1)
		}
	}
	return out
}

func sameIds(t *testing.T, what string, got, want []int) {
	t.Helper()
	if !slices.Equal(got, want) {
		t.Errorf("%s: got %v, want %v", what, got, want)
	}
}

func sameUses(t *testing.T, what string, got, want map[int]int) {
	t.Helper()
	if !maps.Equal(got, want) {
		t.Errorf("%s: got %v, want %v", what, got, want)
	}
}

func below(t *testing.T, what string, d *dag.Dag, roots, want []int) {
	t.Helper()
	sameIds(t, what, walk.Below(d, roots...), want)
}

func same[T comparable](t *testing.T, what string, got, want T) {
	t.Helper()
	if got != want {
		t.Errorf("%s: got %v, want %v", what, got, want)
	}
}
