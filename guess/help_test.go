package guess_test

import (
	"maps"
	"math"
	"math/big"
	"math/rand"
	"testing"

	"compass/api"
	"compass/bound"
	"compass/dag"
	"compass/gap"
	"compass/guess"
)

const (
	minInt, maxInt = math.MinInt, math.MaxInt
	small          = math.SmallestNonzeroFloat64
)

// noIds returns numbers that are no ids of a Dag with that many nodes.
func noIds(count int) []int {
	return []int{count, count + 1, api.MaxNodes, 65536, 1 << 32, maxInt, -1, -2, -count - 1, minInt}
}

func same[T comparable](t *testing.T, what string, got, want T) {
	t.Helper()
	if got != want {
		t.Errorf("%s: got %v, want %v", what, got, want)
	}
}

// lies holds the result of Of, and that of All for the same id, against a Gap.
func lies(t *testing.T, what string, d *dag.Dag, id int, want gap.Gap) {
	t.Helper()
	same(t, what+": Of", guess.Of(d, id), want)
	got, ok := guess.All(d, id)[id]
	same(t, what+": All", got, want)
	same(t, what+": in All", ok, true)
}

// signed holds the result of Sign against a sign that is known.
func signed(t *testing.T, what string, d *dag.Dag, id, want int) {
	t.Helper()
	got, ok := guess.Sign(d, id)
	same(t, what+": Sign", got, want)
	same(t, what+": Sign is known", ok, true)
}

// unsigned tells that Sign does not know the sign.
func unsigned(t *testing.T, what string, d *dag.Dag, id int) {
	t.Helper()
	got, ok := guess.Sign(d, id)
	same(t, what+": Sign", got, 0)
	same(t, what+": Sign is known", ok, false)
}

func sameGaps(t *testing.T, what string, got, want map[int]gap.Gap) {
	t.Helper()
	if !maps.Equal(got, want) {
		t.Errorf("%s: got %v, want %v", what, got, want)
	}
}

// smallValue returns a float64 number with few bits, so that many numbers are 0 or equal.
func smallValue(r *rand.Rand) float64 {
	if r.Intn(2) == 0 {
		return float64(r.Intn(12) - 2)
	}
	return float64(r.Intn(80)-10) / 8
}

// anyValue returns a float64 number that has any bits.
func anyValue(r *rand.Rand) float64 {
	for {
		v := math.Float64frombits(r.Uint64())
		if !math.IsNaN(v) && !math.IsInf(v, 0) {
			return v
		}
	}
}

// anyDag returns a Dag with at most that many nodes, which refer to any that precede them, or mostly to the last.
func anyDag(r *rand.Rand, value func(r *rand.Rand) float64, count int) *dag.Dag {
	d := dag.New(r.Intn(2) == 0)
	d.Leaf(value(r))
	reach := 1 + r.Intn(count)
	for range count - 1 {
		operand := func() int { return d.Len() - 1 - r.Intn(min(d.Len(), reach)) }
		switch kind := r.Intn(7); kind {
		case api.Leaf:
			d.Leaf(value(r))
		case api.Root, 6:
			d.Root(operand())
		default:
			d.Put(api.Node{Kind: kind, A: operand(), B: operand()})
		}
	}
	return d
}

// model is the Gap of a node, and which nodes it is made of.
type model struct {
	gap.Gap
	below map[int]bool
}

// models returns the models of all nodes of a Dag, whether they are below one another or not.
func models(nodes []api.Node) []model {
	operations := map[int]func(a, b gap.Gap) gap.Gap{api.Add: gap.Gap.Add, api.Sub: gap.Gap.Sub, api.Mul: gap.Gap.Mul, api.Div: gap.Gap.Quo}
	var out []model
	for id, n := range nodes {
		m := model{below: map[int]bool{id: true}}
		switch n.Kind {
		case api.Leaf:
			m.Gap = gap.At(n.Value)
		case api.Root:
			m.Gap = out[n.A].Sqrt()
			maps.Copy(m.below, out[n.A].below)
		default:
			m.Gap = operations[n.Kind](out[n.A].Gap, out[n.B].Gap)
			maps.Copy(m.below, out[n.A].below)
			maps.Copy(m.below, out[n.B].below)
		}
		out = append(out, m)
	}
	return out
}

// gapsBelow returns what All should return for the node at this position.
func gapsBelow(all []model, root int) map[int]gap.Gap {
	out := map[int]gap.Gap{}
	for id := range all[root].below {
		out[id] = all[id].Gap
	}
	return out
}

const (
	reach     = 1 << 9 // a value is 0 if it is less than 2^-reach
	precision = 4 * reach
)

// values returns the values of the nodes, as many as root bounds tell from 0 with reach bits. Their error is far
// smaller than 2^-reach. The value of a node is nil if it is undefined.
func values(d *dag.Dag) []*big.Float {
	var out []*big.Float
	for id, n := range d.All() {
		if sep, ok := bound.Sep(d, id); !ok || sep > reach {
			break
		}
		var a, b *big.Float
		if n.Kind != api.Leaf {
			a, b = out[n.A], out[n.B]
		}
		v := value(n, a, b)
		if v != nil && v.Sign() != 0 && v.MantExp(nil) < -reach {
			v.SetInt64(0)
		}
		out = append(out, v)
	}
	return out
}

func value(n api.Node, a, b *big.Float) *big.Float {
	v := new(big.Float).SetPrec(precision)
	switch {
	case n.Kind == api.Leaf:
		return v.SetFloat64(n.Value)
	case a == nil, n.Kind != api.Root && b == nil, n.Kind == api.Div && b.Sign() == 0, n.Kind == api.Root && a.Sign() < 0:
		return nil
	case n.Kind == api.Add:
		return v.Add(a, b)
	case n.Kind == api.Sub:
		return v.Sub(a, b)
	case n.Kind == api.Mul:
		return v.Mul(a, b)
	case n.Kind == api.Div:
		return v.Quo(a, b)
	}
	return v.Sqrt(a)
}

// contains reports whether v lies in a Gap, or the Gap is unknown.
func contains(g gap.Gap, v *big.Float) bool {
	return !g.Known() || v.Cmp(big.NewFloat(g.Lo)) >= 0 && v.Cmp(big.NewFloat(g.Hi)) <= 0
}
