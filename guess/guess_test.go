package guess_test

import (
	"fmt"
	"maps"
	"math"
	"math/rand"
	"runtime/debug"
	"slices"
	"testing"

	"compass/api"
	"compass/dag"
	"compass/gap"
	"compass/guess"
	"compass/walk"
)

func TestP1201Example(t *testing.T) {
	for _, share := range []bool{true, false} {
		d := dag.New(share)
		two := d.Leaf(2)
		x := d.Root(two)
		unsigned(t, "sqrt(2) * sqrt(2) - 2", d, d.Sub(d.Mul(x, x), two))
	}
}

func TestP1201Leaf(t *testing.T) {
	for _, v := range []float64{0, 1, -1, 2, 0.1, -0.1, 1e300, small, -small, math.MaxFloat64, -math.MaxFloat64, 0x1p-1022} {
		for _, share := range []bool{true, false} {
			d := dag.New(share)
			id := d.Leaf(v)
			what := fmt.Sprint(v)
			lies(t, what, d, id, gap.Gap{Lo: v, Hi: v})
			switch {
			case v > 0:
				signed(t, what, d, id, 1)
			case v < 0:
				signed(t, what, d, id, -1)
			default:
				signed(t, what, d, id, 0)
			}
		}
	}
}

func TestP1201LeafKeepsTheBits(t *testing.T) {
	d := dag.New(true)
	plus, minus := d.Leaf(0), d.Leaf(math.Copysign(0, -1))
	same(t, "0", math.Signbit(guess.Of(d, plus).Lo), false)
	g := guess.Of(d, minus)
	same(t, "Lo of -0", math.Signbit(g.Lo), true)
	same(t, "Hi of -0", math.Signbit(g.Hi), true)
	signed(t, "-0", d, minus, 0)
}

func TestP1201Operations(t *testing.T) {
	numbers := []float64{0, 1, -1, 2, -3, 0.1, 7.25, 1e-200, -1e200, small, math.MaxFloat64}
	for _, share := range []bool{true, false} {
		for _, v := range numbers {
			for _, w := range numbers {
				d := dag.New(share)
				a, b := d.Leaf(v), d.Leaf(w)
				g, h := gap.At(v), gap.At(w)
				what := fmt.Sprint(v, " and ", w)
				lies(t, what+" added", d, d.Add(a, b), g.Add(h))
				lies(t, what+" subtracted", d, d.Sub(a, b), g.Sub(h))
				lies(t, what+" multiplied", d, d.Mul(a, b), g.Mul(h))
				lies(t, what+" divided", d, d.Div(a, b), g.Quo(h))
				lies(t, what+" and the root", d, d.Root(a), g.Sqrt())
			}
		}
	}
}

func TestP1201OperationsOnWideGaps(t *testing.T) {
	d := dag.New(true)
	two, three := d.Leaf(2), d.Leaf(3)
	x, y := d.Root(two), d.Root(three)
	g, h := gap.At(2).Sqrt(), gap.At(3).Sqrt()
	lies(t, "the root of 2", d, x, g)
	lies(t, "a sum", d, d.Add(x, y), g.Add(h))
	lies(t, "a sum of itself", d, d.Add(x, x), g.Add(g))
	lies(t, "a difference", d, d.Sub(x, y), g.Sub(h))
	lies(t, "a difference from itself", d, d.Sub(x, x), g.Sub(g))
	lies(t, "a product", d, d.Mul(x, y), g.Mul(h))
	lies(t, "a square", d, d.Mul(x, x), g.Mul(g))
	lies(t, "a quotient", d, d.Div(x, y), g.Quo(h))
	lies(t, "a quotient by itself", d, d.Div(x, x), g.Quo(g))
	lies(t, "a root of a root", d, d.Root(x), g.Sqrt())
	lies(t, "a sum of three", d, d.Add(x, y, two), g.Add(h).Add(gap.At(2)))
	lies(t, "a product of three", d, d.Mul(three, x, y), gap.At(3).Mul(g).Mul(h))
	lies(t, "a deep one", d, d.Div(d.Sub(d.Root(d.Add(x, two)), y), d.Mul(y, x)), g.Add(gap.At(2)).Sqrt().Sub(h).Quo(h.Mul(g)))
}

func TestP1201OrderOfOperands(t *testing.T) {
	d := dag.New(true)
	// The operands of each are different nodes, in either order of their ids, and so are the ids 0 and others.
	a, b := d.Leaf(10), d.Leaf(4)
	g, h := gap.At(10), gap.At(4)
	lies(t, "10 - 4", d, d.Sub(a, b), g.Sub(h))
	lies(t, "4 - 10", d, d.Sub(b, a), h.Sub(g))
	lies(t, "10 / 4", d, d.Div(a, b), g.Quo(h))
	lies(t, "4 / 10", d, d.Div(b, a), h.Quo(g))
	signed(t, "10 - 4", d, d.Sub(a, b), 1)
	signed(t, "4 - 10", d, d.Sub(b, a), -1)
	signed(t, "the root of 4", d, d.Root(b), 1)
}

func TestP1201Unknown(t *testing.T) {
	d := dag.New(true)
	one, zero, minus, most := d.Leaf(1), d.Leaf(0), d.Leaf(-1), d.Leaf(math.MaxFloat64)
	x := d.Root(d.Leaf(2))
	nothing := d.Sub(x, x)
	for _, c := range []struct {
		what string
		id   int
	}{
		{"1/0", d.Div(one, zero)},
		{"0/0", d.Div(zero, zero)},
		{"1 divided by what may be 0", d.Div(one, nothing)},
		{"the root of -1", d.Root(minus)},
		{"the root of what may be negative", d.Root(nothing)},
		{"a sum that is too great", d.Add(most, most)},
		{"a difference that is too great", d.Sub(d.Mul(minus, one), d.Mul(most, most))},
		{"a product that is too great", d.Mul(most, d.Leaf(2))},
		{"a quotient that is too great", d.Div(most, d.Leaf(0.5))},
	} {
		lies(t, c.what, d, c.id, gap.All())
		unsigned(t, c.what, d, c.id)
		for _, id := range []int{d.Add(c.id, one), d.Add(one, c.id), d.Sub(c.id, one), d.Sub(one, c.id), d.Mul(c.id, zero), d.Mul(zero, c.id), d.Div(c.id, one), d.Div(zero, c.id), d.Root(c.id), d.Sub(c.id, c.id)} {
			lies(t, "made of "+c.what, d, id, gap.All())
			unsigned(t, "made of "+c.what, d, id)
		}
	}
	lies(t, "the root of 0", d, d.Root(zero), gap.At(0).Sqrt())
	lies(t, "0 divided by 1", d, d.Div(zero, one), gap.At(0).Quo(gap.At(1)))
}

func TestP1201Sign(t *testing.T) {
	d := dag.New(true)
	two, three := d.Leaf(2), d.Leaf(3)
	x, y := d.Root(two), d.Root(three)
	signed(t, "sqrt(2)", d, x, 1)
	signed(t, "sqrt(2) - 2", d, d.Sub(x, two), -1)
	signed(t, "3/2 - sqrt(2)", d, d.Sub(d.Div(three, two), x), 1)
	signed(t, "7/5 - sqrt(2)", d, d.Sub(d.Div(d.Leaf(7), d.Leaf(5)), x), -1)
	signed(t, "sqrt(3) - sqrt(2)", d, d.Sub(y, x), 1)
	signed(t, "sqrt(2) - sqrt(3)", d, d.Sub(x, y), -1)
	signed(t, "sqrt(2) times -3", d, d.Mul(x, d.Leaf(-3)), -1)
	unsigned(t, "sqrt(2) - sqrt(2)", d, d.Sub(x, x))
	unsigned(t, "1 - 1", d, d.Sub(d.Leaf(1), d.Leaf(1)))
	unsigned(t, "(sqrt(2) + sqrt(3))^2 - (5 + 2 sqrt(6))", d, d.Sub(d.Mul(d.Add(x, y), d.Add(x, y)), d.Add(d.Leaf(5), d.Mul(two, d.Root(d.Leaf(6))))))
	unsigned(t, "2^60 + 1 - 2^60", d, d.Sub(d.Add(d.Leaf(1<<60), d.Leaf(1)), d.Leaf(1<<60)))
	unsigned(t, "the root of 0", d, d.Root(d.Leaf(0)))
	signed(t, "a small difference", d, d.Sub(d.Leaf(1-1e-10), d.Leaf(1-2e-10)), 1)
}

func TestP1201NoSuchId(t *testing.T) {
	for _, share := range []bool{true, false} {
		for count := range 4 {
			d := dag.New(share)
			for i := range count {
				d.Leaf(float64(i + 1))
			}
			for _, id := range noIds(count) {
				what := fmt.Sprint(id, " of ", count)
				same(t, what+": Of", guess.Of(d, id), gap.All())
				same(t, what+": All", len(guess.All(d, id)), 0)
				unsigned(t, what, d, id)
			}
		}
	}
}

func TestP1201NilDag(t *testing.T) {
	for _, id := range append(noIds(0), 1, 2) {
		same(t, "Of", guess.Of(nil, id), gap.All())
		same(t, "All", guess.All(nil, id) == nil, true)
		unsigned(t, "nil", nil, id)
	}
	var zero dag.Dag
	same(t, "Of of the zero Dag", guess.Of(&zero, 0), gap.All())
	same(t, "All of the zero Dag", len(guess.All(&zero, 0)), 0)
	unsigned(t, "the zero Dag", &zero, 0)
}

func TestP1201AllHasWhatIsBelow(t *testing.T) {
	d := dag.New(true)
	two, five := d.Leaf(2), d.Leaf(5)
	x := d.Root(two)
	xx := d.Mul(x, x)
	d.Add(x, five)
	g := gap.At(2).Sqrt()
	sameGaps(t, "a square", guess.All(d, xx), map[int]gap.Gap{two: gap.At(2), x: g, xx: g.Mul(g)})
	sameGaps(t, "a root", guess.All(d, x), map[int]gap.Gap{two: gap.At(2), x: g})
	sameGaps(t, "a Leaf", guess.All(d, five), map[int]gap.Gap{five: gap.At(5)})
	d = dag.New(false)
	bad := d.Div(d.Leaf(1), d.Leaf(0))
	sameGaps(t, "an unknown one", guess.All(d, bad), map[int]gap.Gap{0: gap.At(1), 1: gap.At(0), bad: gap.All()})
}

func TestP1201AllIsNew(t *testing.T) {
	d := dag.New(true)
	x := d.Root(d.Leaf(2))
	first := guess.All(d, x)
	want := maps.Clone(first)
	first[x] = gap.All()
	first[7] = gap.At(7)
	delete(first, 0)
	sameGaps(t, "All again", guess.All(d, x), want)
	lies(t, "Of again", d, x, want[x])
}

func TestP1201DagIsNotModified(t *testing.T) {
	r := rand.New(rand.NewSource(5))
	for range 100 {
		d := anyDag(r, smallValue, 20)
		before := d.All()
		for id := range before {
			guess.Of(d, id)
			guess.All(d, id)
			guess.Sign(d, id)
		}
		same(t, "the same nodes", slices.Equal(d.All(), before), true)
	}
}

func TestP1201AnyDag(t *testing.T) {
	for seed, value := range []func(*rand.Rand) float64{smallValue, anyValue} {
		r := rand.New(rand.NewSource(int64(seed)))
		for range 1500 {
			d := anyDag(r, value, 1+r.Intn(25))
			all := models(d.All())
			for id, m := range all {
				same(t, fmt.Sprint("Of of ", id, " in ", d.All()), guess.Of(d, id), m.Gap)
				sameGaps(t, fmt.Sprint("All of ", id, " in ", d.All()), guess.All(d, id), gapsBelow(all, id))
				want, known := m.Sign()
				sign, ok := guess.Sign(d, id)
				same(t, fmt.Sprint("Sign of ", id, " in ", d.All()), sign, want)
				same(t, fmt.Sprint("Sign is known of ", id, " in ", d.All()), ok, known)
			}
		}
	}
}

func TestP1201DefinedNumbersLieInTheirGaps(t *testing.T) {
	r := rand.New(rand.NewSource(11))
	known, zeros, undefined := 0, 0, 0
	for range 4000 {
		d := anyDag(r, smallValue, 1+r.Intn(14))
		for id, v := range values(d) {
			if v == nil {
				undefined++
				continue
			}
			g := guess.Of(d, id)
			same(t, fmt.Sprint(v.Text('g', 40), " lies in ", g, " in ", d.All()), contains(g, v), true)
			sign, ok := guess.Sign(d, id)
			if ok {
				known++
				same(t, fmt.Sprint("sign of ", id, " in ", d.All()), sign, v.Sign())
			} else if v.Sign() == 0 {
				zeros++
			}
		}
	}
	// All kinds of numbers must have been among them.
	if known < 5000 || zeros < 200 || undefined < 1000 {
		t.Errorf("%d known, %d zeros, %d undefined", known, zeros, undefined)
	}
}

func TestP1201EvaluatesOnce(t *testing.T) {
	// Each uses the one before it twice: their uses double with each step.
	d := dag.New(true)
	half := d.Leaf(0.5)
	id := half
	for range 2000 {
		id = d.Mul(d.Add(id, id), half)
	}
	g := guess.Of(d, id)
	same(t, "known", g.Known(), true)
	same(t, "contains 1/2", g.Lo < 0.5 && 0.5 < g.Hi, true)
	same(t, "nodes", len(guess.All(d, id)), 4001)
	signed(t, "1/2", d, id, 1)
}

func TestP1201DeepNumbers(t *testing.T) {
	defer debug.SetMaxStack(debug.SetMaxStack(128 << 10))
	for _, kind := range []int{api.Add, api.Sub, api.Mul, api.Div, api.Root} {
		d := dag.New(false)
		id := d.Leaf(1)
		for d.Len() < api.MaxNodes {
			n := api.Node{Kind: kind, A: id}
			if kind != api.Root {
				n.B = 0
			}
			id, _ = d.Put(n)
		}
		all := guess.All(d, id)
		same(t, "nodes", len(all), api.MaxNodes)
		same(t, "the last", all[id], guess.Of(d, id))
		want := gap.At(1)
		for range api.MaxNodes - 1 {
			switch kind {
			case api.Add:
				want = want.Add(gap.At(1))
			case api.Sub:
				want = want.Sub(gap.At(1))
			case api.Mul:
				want = want.Mul(gap.At(1))
			case api.Div:
				want = want.Quo(gap.At(1))
			default:
				want = want.Sqrt()
			}
		}
		same(t, fmt.Sprint("the last of kind ", kind), all[id], want)
	}
}

func TestP1201AllAgreesWithBelow(t *testing.T) {
	r := rand.New(rand.NewSource(3))
	for range 300 {
		d := anyDag(r, smallValue, 30)
		for id := range d.Len() {
			got := slices.Sorted(maps.Keys(guess.All(d, id)))
			same(t, fmt.Sprint("ids below ", id), slices.Equal(got, walk.Below(d, id)), true)
		}
	}
}
