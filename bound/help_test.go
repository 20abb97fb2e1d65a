package bound_test

import (
	"math"
	"math/big"
	"math/cmplx"
	"math/rand"
	"testing"

	"compass/api"
	"compass/bound"
	"compass/dag"
)

const (
	minInt, maxInt = math.MinInt, math.MaxInt
	most           = 1 << 40
)

// noIds returns numbers that are no ids of a Dag with that many nodes.
func noIds(count int) []int {
	return []int{count, count + 1, api.MaxNodes, 65536, 1 << 32, maxInt, -1, -2, -count - 1, minInt}
}

func same[T comparable](t *testing.T, what string, got, want T) {
	t.Helper()
	if got != want {
		t.Errorf("%s: got %v, want %v", what, got, want)
	}
}

// of is a result of Of.
type of struct {
	bound.Bound
	holds bool
}

// bounded holds the result of Of, and that of All for the same id, against a Bound.
func bounded(t *testing.T, what string, d *dag.Dag, id int, u, l, k int, holds bool) {
	t.Helper()
	want := bound.Bound{U: u, L: l, K: k}
	b, ok := bound.Of(d, id)
	same(t, what+": Of", of{b, ok}, of{want, holds})
	same(t, what+": All", bound.All(d, id)[id], want)
}

// apart holds the result of Sep against a number of bits, which is 0 if there is none.
func apart(t *testing.T, what string, d *dag.Dag, id, want int) {
	t.Helper()
	got, ok := bound.Sep(d, id)
	same(t, what+": Sep", got, want)
	same(t, what+": Sep is known", ok, want > 0)
}

// power returns 2^n.
func power(n int) float64 { return math.Ldexp(1, n) }

// doubled returns the product of 2^n factors equal to id.
func doubled(d *dag.Dag, id, n int) int {
	for range n {
		id = d.Mul(id, id)
	}
	return id
}

// factors returns the product of n factors equal to id, for an n greater than 0.
func factors(d *dag.Dag, id, n int) int {
	out := -1
	for n > 0 {
		switch {
		case n%2 == 0:
		case out < 0:
			out = id
		default:
			out = d.Mul(out, id)
		}
		id = d.Mul(id, id)
		n /= 2
	}
	return out
}

// anyValue returns a float64 number that is small, or a power of two, or has any bits.
func anyValue(r *rand.Rand) float64 {
	for {
		v := math.Float64frombits(r.Uint64())
		switch r.Intn(4) {
		case 0:
			v = float64(r.Intn(20) - 5)
		case 1:
			v = float64(r.Intn(100)-20) / 8
		case 2:
			v = power(r.Intn(2098) - 1074)
		}
		if !math.IsNaN(v) && !math.IsInf(v, 0) {
			return v
		}
	}
}

// anyDag returns a Dag with at most that many nodes, which refer to any that precede them, or mostly to the last.
func anyDag(r *rand.Rand, value func(r *rand.Rand) float64, count int) *dag.Dag {
	d := dag.New(r.Intn(2) == 0)
	d.Leaf(value(r))
	reach := 1 + r.Intn(count)
	for range count - 1 {
		operand := func() int { return d.Len() - 1 - r.Intn(min(d.Len(), reach)) }
		switch kind := r.Intn(7); kind {
		case api.Leaf:
			d.Leaf(value(r))
		case api.Root, 6:
			d.Root(operand())
		default:
			d.Put(api.Node{Kind: kind, A: operand(), B: operand()})
		}
	}
	return d
}

// model is the table of the chapter with numbers of any size, for all nodes of a Dag.
type model struct {
	u, l  *big.Int
	holds bool
	roots map[int]bool
}

// models returns the models of all ids.
func models(nodes []api.Node) []model {
	var out []model
	for id, n := range nodes {
		m := model{holds: true, roots: map[int]bool{}}
		var a, b model
		if n.Kind != api.Leaf {
			a = out[n.A]
			b = out[n.B]
		}
		switch n.Kind {
		case api.Leaf:
			m.u, m.l = parts(n.Value)
		case api.Add, api.Sub:
			m.u, m.l = plus(a.u, b.l), plus(a.l, b.l)
			if other := plus(a.l, b.u); other.Cmp(m.u) > 0 {
				m.u = other
			}
			m.u.Add(m.u, big.NewInt(1))
		case api.Mul:
			m.u, m.l = plus(a.u, b.u), plus(a.l, b.l)
		case api.Div:
			m.u, m.l = plus(a.u, b.l), plus(a.l, b.u)
		case api.Root:
			b = model{holds: true}
			m.roots[id] = true
			half, rest := new(big.Int).DivMod(plus(a.u, a.l), big.NewInt(2), new(big.Int))
			half.Add(half, rest)
			if a.u.Cmp(a.l) >= 0 {
				m.u, m.l = half, a.l
			} else {
				m.u, m.l = a.u, half
			}
		}
		if n.Kind != api.Leaf {
			m.holds = a.holds && b.holds
			m.made(a, b)
		}
		m.u, m.l = m.cut(m.u), m.cut(m.l)
		out = append(out, m)
	}
	return out
}

// made adds the square roots of the operands.
func (m *model) made(operands ...model) {
	for _, o := range operands {
		for id := range o.roots {
			m.roots[id] = true
		}
	}
}

// cut returns v, or 2^40 if it is greater.
func (m *model) cut(v *big.Int) *big.Int {
	if v.Cmp(big.NewInt(most)) <= 0 {
		return v
	}
	m.holds = false
	return big.NewInt(most)
}

func (m *model) of() of {
	return of{bound.Bound{U: int(m.u.Int64()), L: int(m.l.Int64()), K: len(m.roots)}, m.holds}
}

func (m *model) sep() (int, bool) {
	if !m.holds || len(m.roots) > 20 {
		return 0, false
	}
	n := m.u
	if m.l.Cmp(n) > 0 {
		n = m.l
	}
	n = new(big.Int).Lsh(n, uint(len(m.roots)))
	n.Add(n, big.NewInt(1))
	if n.Cmp(big.NewInt(most)) > 0 {
		return 0, false
	}
	return int(n.Int64()), true
}

func plus(a, b *big.Int) *big.Int { return new(big.Int).Add(a, b) }

// parts returns the U and the L of a float64 number: the bits of its numerator and those of its denominator, which is
// a power of two, less 1.
func parts(v float64) (*big.Int, *big.Int) {
	q := new(big.Rat).SetFloat64(v)
	return big.NewInt(int64(q.Num().BitLen())), big.NewInt(int64(q.Denom().BitLen() - 1))
}

// conjugate is a numerator and a denominator.
type conjugate struct{ up, low complex128 }

// conjugates returns the conjugates of all nodes that belong to a choice of signs: bit i of it is that of node i.
func conjugates(nodes []api.Node, bounds []of, signs int) []conjugate {
	var out []conjugate
	for id, n := range nodes {
		var c, a, b conjugate
		if n.Kind != api.Leaf {
			a, b = out[n.A], out[n.B]
		}
		switch n.Kind {
		case api.Leaf:
			q := new(big.Rat).SetFloat64(n.Value)
			up, _ := new(big.Float).SetInt(q.Num()).Float64()
			low, _ := new(big.Float).SetInt(q.Denom()).Float64()
			c = conjugate{complex(up, 0), complex(low, 0)}
		case api.Add:
			c = conjugate{a.up*b.low + b.up*a.low, a.low * b.low}
		case api.Sub:
			c = conjugate{a.up*b.low - b.up*a.low, a.low * b.low}
		case api.Mul:
			c = conjugate{a.up * b.up, a.low * b.low}
		case api.Div:
			c = conjugate{a.up * b.low, a.low * b.up}
		case api.Root:
			root := cmplx.Sqrt(a.up * a.low)
			if signs>>id&1 == 1 {
				root = -root
			}
			c = conjugate{root, a.low}
			if bounds[n.A].U < bounds[n.A].L {
				c = conjugate{a.up, root}
			}
		}
		out = append(out, c)
	}
	return out
}

// value is an approximation of a number, or the exact 0, or nil if the number is undefined.
type value = *big.Float

// values returns the values of the nodes, with an error that is far smaller than 2^-reach. Whatever is smaller than
// that is 0.
func values(nodes []api.Node, reach int) []value {
	prec := uint(4*reach + 4000)
	var out []value
	for _, n := range nodes {
		v := new(big.Float).SetPrec(prec)
		var a, b value
		if n.Kind != api.Leaf {
			a, b = out[n.A], out[n.B]
		}
		switch {
		case n.Kind == api.Leaf:
			v.SetFloat64(n.Value)
		case a == nil, n.Kind != api.Root && b == nil, n.Kind == api.Div && b.Sign() == 0, n.Kind == api.Root && a.Sign() < 0:
			v = nil
		case n.Kind == api.Add:
			v.Add(a, b)
		case n.Kind == api.Sub:
			v.Sub(a, b)
		case n.Kind == api.Mul:
			v.Mul(a, b)
		case n.Kind == api.Div:
			v.Quo(a, b)
		default:
			v.Sqrt(a)
		}
		if v != nil && v.Sign() != 0 && v.MantExp(nil) < -2*reach {
			v.SetInt64(0)
		}
		out = append(out, v)
	}
	return out
}
