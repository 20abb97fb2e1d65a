package bound_test

import (
	"fmt"
	"math"
	"math/big"
	"math/cmplx"
	"math/rand"
	"runtime/debug"
	"slices"
	"testing"

	"compass/api"
	"compass/bound"
	"compass/dag"
	"compass/walk"
)

func TestP1101Example(t *testing.T) {
	d := dag.New(true)
	two := d.Leaf(2)
	x := d.Root(two)
	bounded(t, "2", d, two, 2, 0, 0, true)
	bounded(t, "sqrt(2)", d, x, 1, 0, 1, true)
	apart(t, "sqrt(2)", d, x, 3)
}

func TestP1101Leaf(t *testing.T) {
	for _, c := range []struct {
		v    float64
		u, l int
	}{
		{0, 0, 0}, {math.Copysign(0, -1), 0, 0},
		{1, 1, 0}, {-1, 1, 0}, {2, 2, 0}, {3, 2, 0}, {-3, 2, 0}, {4, 3, 0}, {5, 3, 0}, {6, 3, 0}, {7, 3, 0}, {8, 4, 0}, {12, 4, 0},
		{0.5, 1, 1}, {-0.5, 1, 1}, {0.75, 2, 2}, {-0.75, 2, 2}, {1.5, 2, 1}, {0.25, 1, 2}, {2.5, 3, 1}, {100.125, 10, 3},
		{0.1, 52, 55}, {-0.1, 52, 55}, {1 << 53, 54, 0}, {1<<53 - 1, 53, 0},
		{math.MaxFloat64, 53 + 971, 0}, {-math.MaxFloat64, 53 + 971, 0}, {power(1023), 1024, 0},
		{math.SmallestNonzeroFloat64, 1, 1074}, {-3 * math.SmallestNonzeroFloat64, 2, 1074}, {power(-1022), 1, 1022},
		{math.Nextafter(1, 2), 53, 52}, {math.Nextafter(1, 0), 53, 53},
	} {
		d := dag.New(true)
		bounded(t, fmt.Sprint(c.v), d, d.Leaf(c.v), c.u, c.l, 0, true)
	}
}

func TestP1101Operations(t *testing.T) {
	d := dag.New(true)
	// U and L: 4 and 0, 2 and 2, 1 and 4, 0 and 0.
	a, b, c, zero := d.Leaf(12), d.Leaf(-0.75), d.Leaf(0.0625), d.Leaf(0)
	for _, x := range []struct{ a, b, sumU, sumL, mulU, mulL, divU, divL int }{
		{a, b, 7, 2, 6, 2, 6, 2},
		{b, a, 7, 2, 6, 2, 2, 6},
		{a, c, 9, 4, 5, 4, 8, 1},
		{c, a, 9, 4, 5, 4, 1, 8},
		{b, c, 7, 6, 3, 6, 6, 3},
		{c, b, 7, 6, 3, 6, 3, 6},
		{a, zero, 5, 0, 4, 0, 4, 0},
		{zero, a, 5, 0, 4, 0, 0, 4},
		{b, zero, 3, 2, 2, 2, 2, 2},
		{zero, c, 5, 4, 1, 4, 4, 1},
		{c, zero, 5, 4, 1, 4, 1, 4},
		{zero, zero, 1, 0, 0, 0, 0, 0},
		{a, a, 5, 0, 8, 0, 4, 4},
		{c, c, 6, 8, 2, 8, 5, 5},
	} {
		what := fmt.Sprint(x.a, " and ", x.b)
		bounded(t, what+" added", d, d.Add(x.a, x.b), x.sumU, x.sumL, 0, true)
		bounded(t, what+" subtracted", d, d.Sub(x.a, x.b), x.sumU, x.sumL, 0, true)
		bounded(t, what+" multiplied", d, d.Mul(x.a, x.b), x.mulU, x.mulL, 0, true)
		bounded(t, what+" divided", d, d.Div(x.a, x.b), x.divU, x.divL, 0, true)
	}
}

func TestP1101Root(t *testing.T) {
	for _, c := range []struct{ u, l, wantU, wantL int }{
		{1, 0, 1, 0}, {2, 0, 1, 0}, {3, 0, 2, 0}, {4, 0, 2, 0}, {5, 0, 3, 0},
		{1, 1, 1, 1}, {2, 2, 2, 2}, {7, 7, 7, 7},
		{2, 1, 2, 1}, {3, 1, 2, 1}, {4, 1, 3, 1}, {9, 4, 7, 4},
		{1, 2, 1, 2}, {1, 3, 1, 2}, {1, 4, 1, 3}, {4, 9, 4, 7}, {2, 5, 2, 4}, {2, 100, 2, 51},
	} {
		d := dag.New(true)
		// A power of 1 has any U, and no L; one divided by another has both.
		one := d.Leaf(1)
		id := factors(d, one, c.u)
		if c.l > 0 {
			id = d.Div(id, factors(d, one, c.l))
		}
		bounded(t, "an operand", d, id, c.u, c.l, 0, true)
		bounded(t, fmt.Sprint("the root of ", c.u, " and ", c.l), d, d.Root(id), c.wantU, c.wantL, 1, true)
	}
	d := dag.New(true)
	bounded(t, "the root of 0", d, d.Root(d.Leaf(0)), 0, 0, 1, true)
	bounded(t, "the root of a negative number", d, d.Root(d.Leaf(-0.75)), 2, 2, 1, true)
	bounded(t, "the root of 0/1", d, d.Root(d.Div(d.Leaf(0), d.Leaf(1))), 0, 1, 1, true)
}

func TestP1101CountsDifferentRoots(t *testing.T) {
	d := dag.New(true)
	two, three := d.Leaf(2), d.Leaf(3)
	x, y := d.Root(two), d.Root(three)
	bounded(t, "the same twice", d, d.Mul(x, x), 2, 0, 1, true)
	sum := d.Add(x, y)
	bounded(t, "two", d, sum, 2, 0, 2, true)
	bounded(t, "two, each twice", d, d.Mul(sum, d.Sub(x, y)), 4, 0, 2, true)
	bounded(t, "a root of roots", d, d.Root(sum), 1, 0, 3, true)
	bounded(t, "not those that are made of it", d, x, 1, 0, 1, true)
	bounded(t, "none", d, d.Add(two, three), 3, 0, 0, true)
	d = dag.New(false)
	bounded(t, "equal ones that are not shared", d, d.Mul(d.Root(d.Leaf(2)), d.Root(d.Leaf(2))), 2, 0, 2, true)
}

func TestP1101UndefinedNumbersHaveBounds(t *testing.T) {
	d := dag.New(true)
	one, zero := d.Leaf(1), d.Leaf(0)
	quotient := d.Div(one, zero)
	bounded(t, "1/0", d, quotient, 1, 0, 0, true)
	bounded(t, "1/0 + 1", d, d.Add(quotient, one), 2, 0, 0, true)
	bounded(t, "sqrt(-1)", d, d.Root(d.Leaf(-1)), 1, 0, 1, true)
}

func TestP1101Great(t *testing.T) {
	for _, share := range []bool{true, false} {
		d := dag.New(share)
		one := d.Leaf(1)
		great := doubled(d, one, 40)
		bounded(t, "U of 2^40", d, great, most, 0, 0, true)
		low := d.Div(d.Leaf(0), great)
		bounded(t, "L of 2^40", d, low, 0, most, 0, true)
		both := d.Div(great, great)
		bounded(t, "both", d, both, most, most, 0, true)
		bounded(t, "its root", d, d.Root(both), most, most, 1, true)
		bounded(t, "the root of the U", d, d.Root(great), most/2, 0, 1, true)
		bounded(t, "the root of the L", d, d.Root(low), 0, most/2, 1, true)
		bounded(t, "U of 2^40 times 1", d, d.Mul(great, one), most, 0, 0, false)
		bounded(t, "1 times U of 2^40", d, d.Mul(one, great), most, 0, 0, false)
		bounded(t, "divided by L of 2^40", d, d.Div(one, low), most, 0, 0, false)
		bounded(t, "1/2 divided by U of 2^40", d, d.Div(d.Leaf(0.5), great), 1, most, 0, false)
		bounded(t, "a sum", d, d.Add(great, d.Leaf(0)), most, 0, 0, false)
		bounded(t, "a difference", d, d.Sub(d.Leaf(0), great), most, 0, 0, false)
		bounded(t, "L of a sum", d, d.Add(low, d.Leaf(0.5)), most, most, 0, false)
		bounded(t, "a square", d, d.Mul(both, both), most, most, 0, false)
		bounded(t, "U of 2^40 times 0", d, d.Mul(great, d.Leaf(0)), most, 0, 0, true)
	}
}

func TestP1101JustNotGreat(t *testing.T) {
	d := dag.New(true)
	one := d.Leaf(1)
	almost := factors(d, one, most-1)
	bounded(t, "U of 2^40 - 1", d, almost, most-1, 0, 0, true)
	bounded(t, "plus 0", d, d.Add(almost, d.Leaf(0)), most, 0, 0, true)
	bounded(t, "times 1", d, d.Mul(almost, one), most, 0, 0, true)
	bounded(t, "times 1 twice", d, d.Mul(almost, one, one), most, 0, 0, false)
	bounded(t, "the root", d, d.Root(almost), most/2, 0, 1, true)
}

func TestP1101NothingMadeOfGreatHolds(t *testing.T) {
	d := dag.New(true)
	one := d.Leaf(1)
	great := doubled(d, one, 41)
	bounded(t, "U of 2^41", d, great, most, 0, 0, false)
	x := d.Root(great)
	bounded(t, "its root", d, x, most/2, 0, 1, false)
	bounded(t, "the root of that", d, d.Root(x), most/4, 0, 2, false)
	bounded(t, "a sum", d, d.Add(x, one), most/2+1, 0, 1, false)
	bounded(t, "a sum, the other way round", d, d.Add(one, x), most/2+1, 0, 1, false)
	bounded(t, "a difference", d, d.Sub(x, one), most/2+1, 0, 1, false)
	bounded(t, "a difference, the other way round", d, d.Sub(one, x), most/2+1, 0, 1, false)
	bounded(t, "a product", d, d.Mul(x, one), most/2+1, 0, 1, false)
	bounded(t, "a product, the other way round", d, d.Mul(one, x), most/2+1, 0, 1, false)
	bounded(t, "a quotient", d, d.Div(x, one), most/2, 1, 1, false)
	bounded(t, "a quotient, the other way round", d, d.Div(one, x), 1, most/2, 1, false)
	low := d.Div(one, great)
	bounded(t, "an L of 2^41", d, low, 1, most, 0, false)
	bounded(t, "the root of the L", d, d.Root(low), 1, most/2+1, 1, false)
	bounded(t, "times 0", d, d.Mul(x, d.Leaf(0)), most/2, 0, 1, false)
	bounded(t, "minus itself", d, d.Sub(x, x), most/2+1, 0, 1, false)
	bounded(t, "what is not made of it", d, d.Root(one), 1, 0, 1, true)
	again := d.Mul(d.Root(d.Root(x)), one)
	bounded(t, "made of it, long after", d, again, most/8+1, 0, 3, false)
	apart(t, "made of it, long after", d, again, 0)
}

func TestP1101NoId(t *testing.T) {
	d := dag.New(true)
	d.Root(d.Leaf(2))
	for _, id := range noIds(d.Len()) {
		bounded(t, fmt.Sprint(id), d, id, 0, 0, 0, false)
		same(t, fmt.Sprint("All of ", id), len(bound.All(d, id)), 0)
		bounded(t, "nil", nil, id, 0, 0, 0, false)
		same(t, "All of nil is nil", bound.All(nil, id) == nil, true)
	}
	for _, empty := range []*dag.Dag{nil, {}, dag.New(true), dag.New(false)} {
		bounded(t, "no nodes", empty, 0, 0, 0, 0, false)
		same(t, "All without nodes", len(bound.All(empty, 0)), 0)
	}
}

func TestP1101All(t *testing.T) {
	d := dag.New(true)
	d.Leaf(100)
	two := d.Leaf(2)
	x := d.Root(two)
	d.Root(x)
	square := d.Mul(x, x)
	z := d.Sub(square, two)
	d.Add(z, z)
	got := bound.All(d, z)
	want := map[int]bound.Bound{two: {U: 2}, x: {U: 1, K: 1}, square: {U: 2, K: 1}, z: {U: 3, K: 1}}
	same(t, "All", fmt.Sprint(got), fmt.Sprint(want))
	same(t, "All of a Leaf", fmt.Sprint(bound.All(d, two)), fmt.Sprint(map[int]bound.Bound{two: {U: 2}}))
}

func TestP1101AllHasWhatDoesNotHold(t *testing.T) {
	d := dag.New(true)
	one := d.Leaf(1)
	great := doubled(d, one, 41)
	x := d.Root(great)
	got := bound.All(d, x)
	same(t, "number of Bounds", len(got), 43)
	same(t, "1", got[one], bound.Bound{U: 1})
	same(t, "U of 2^41", got[great], bound.Bound{U: most})
	same(t, "its root", got[x], bound.Bound{U: most / 2, K: 1})
}

func TestP1101AllCountsManyRoots(t *testing.T) {
	for _, count := range []int{1, 2, 63, 64, 65, 127, 128, 129, 200} {
		d := dag.New(true)
		last := d.Leaf(2)
		var roots []int
		for i := range count {
			roots = append(roots, d.Root(d.Leaf(float64(i+3))))
		}
		sum := d.Add(roots...)
		for range count {
			last = d.Root(last)
		}
		all := d.Mul(last, sum)
		got := bound.All(d, all)
		same(t, "number of Bounds", len(got), d.Len())
		same(t, "K of both", got[all].K, 2*count)
		same(t, "K of the chain", got[last].K, count)
		same(t, "K of the sum", got[sum].K, count)
		for _, id := range roots {
			same(t, "K of a root", got[id].K, 1)
		}
	}
}

func TestP1101LikeModel(t *testing.T) {
	r := rand.New(rand.NewSource(11))
	for range 300 {
		d := anyDag(r, anyValue, 1+r.Intn(150))
		nodes := d.All()
		m := models(nodes)
		for id := range nodes {
			b, ok := bound.Of(d, id)
			same(t, "Of", of{b, ok}, m[id].of())
			same(t, "K", b.K, walk.Roots(d, id))
			got, ok := bound.Sep(d, id)
			want, wantOk := m[id].sep()
			same(t, "Sep", got, want)
			same(t, "Sep is known", ok, wantOk)
		}
		root := r.Intn(d.Len())
		all := bound.All(d, root)
		ids := walk.Below(d, root)
		same(t, "number of Bounds", len(all), len(ids))
		for _, id := range ids {
			same(t, "All", all[id], m[id].of().Bound)
		}
		if !slices.Equal(d.All(), nodes) {
			t.Fatal("the Dag has changed")
		}
	}
}

func TestP1101BoundsConjugates(t *testing.T) {
	value := func(r *rand.Rand) float64 { return float64(r.Intn(200)-60) / float64(int(1)<<r.Intn(5)) }
	r := rand.New(rand.NewSource(12))
	for range 2000 {
		d := anyDag(r, value, 1+r.Intn(9))
		nodes := d.All()
		var bounds []of
		for id := range nodes {
			b, ok := bound.Of(d, id)
			bounds = append(bounds, of{b, ok})
		}
		for signs := range 1 << len(nodes) {
			for id, c := range conjugates(nodes, bounds, signs) {
				if cmplx.Abs(c.up) > power(bounds[id].U)*(1+1e-9) || cmplx.Abs(c.low) > power(bounds[id].L)*(1+1e-9) {
					t.Fatalf("%v: node %d is %v, which %v does not bound", nodes, id, c, bounds[id])
				}
			}
		}
	}
}

func TestP1101DoesNotRecurse(t *testing.T) {
	// Recursion to the depth of these numbers takes more stack than that, and ends the program.
	defer debug.SetMaxStack(debug.SetMaxStack(128 << 10))
	d := dag.New(false)
	last := d.Leaf(3)
	for d.Len() < api.MaxNodes {
		last = d.Root(last)
	}
	bounded(t, "roots of roots", d, last, 1, 0, api.MaxNodes-1, true)
	apart(t, "roots of roots", d, last, 0)
	all := bound.All(d, last)
	for id := range api.MaxNodes {
		if all[id].K != id {
			t.Fatalf("K of %d: got %d", id, all[id].K)
		}
	}
	d = dag.New(false)
	last = d.Leaf(0)
	for d.Len() < api.MaxNodes {
		last = d.Add(0, last)
	}
	bounded(t, "sums of sums", d, last, api.MaxNodes-1, 0, 0, true)
	apart(t, "sums of sums", d, last, api.MaxNodes)
}

func TestP1101ResultsAreNewMemory(t *testing.T) {
	d := dag.New(true)
	x := d.Root(d.Leaf(2))
	all := bound.All(d, x)
	all[x] = bound.Bound{U: 99}
	all[99] = bound.Bound{}
	bounded(t, "sqrt(2)", d, x, 1, 0, 1, true)
	same(t, "number of Bounds", len(bound.All(d, x)), 2)
}

func TestP1102Sep(t *testing.T) {
	d := dag.New(true)
	two, three, zero, half, twelve := d.Leaf(2), d.Leaf(3), d.Leaf(0), d.Leaf(-0.75), d.Leaf(12)
	x, y := d.Root(two), d.Root(three)
	quotient := d.Div(half, twelve)
	for _, c := range []struct{ id, want int }{
		{zero, 1}, {two, 3}, {half, 3}, {twelve, 5}, {quotient, 7}, {d.Div(twelve, half), 7}, {d.Leaf(0.0625), 5},
		{x, 3}, {y, 3}, {d.Root(zero), 1}, {d.Root(quotient), 9}, {d.Root(d.Leaf(0.0625)), 7},
		{d.Mul(x, x), 5}, {d.Add(x, y), 9}, {d.Sub(x, y), 9}, {d.Root(d.Add(x, y)), 9}, {d.Root(x), 5},
	} {
		apart(t, fmt.Sprint("node ", c.id), d, c.id, c.want)
	}
}

func TestP1102NoId(t *testing.T) {
	d := dag.New(true)
	d.Root(d.Leaf(2))
	for _, id := range noIds(d.Len()) {
		apart(t, fmt.Sprint(id), d, id, 0)
		apart(t, "nil", nil, id, 0)
	}
	apart(t, "nil", nil, 0, 0)
	apart(t, "no nodes", dag.New(true), 0, 0)
}

func TestP1102Great(t *testing.T) {
	d := dag.New(true)
	one := d.Leaf(1)
	for _, c := range []struct{ factors, roots, want int }{
		{most - 2, 0, most - 1}, {most - 1, 0, most}, {most, 0, 0}, {most + 1, 0, 0}, {1 << 50, 0, 0},
		{most/2 - 1, 1, most - 1}, {most / 2, 1, 0}, {most/4 - 1, 2, most - 3}, {most / 4, 2, 0},
		{1 << 21, 19, 0}, {1<<21 - 1, 19, most + 1 - 1<<19}, {1<<20 - 1, 20, most + 1 - 1<<20}, {1 << 20, 20, 0},
	} {
		up := factors(d, one, c.factors)
		if c.roots > 0 {
			// The roots of 0 and so on have a U and an L of 0.
			last := d.Leaf(0)
			for range c.roots {
				last = d.Root(last)
			}
			up = d.Mul(up, last)
		}
		apart(t, fmt.Sprint("U of ", c.factors, " with ", c.roots), d, up, c.want)
		// Divided by it, it is the L.
		apart(t, fmt.Sprint("L of ", c.factors, " with ", c.roots), d, d.Div(d.Leaf(0), up), c.want)
	}
}

func TestP1102ManyRoots(t *testing.T) {
	d := dag.New(true)
	last := d.Leaf(2)
	for k := range 30 {
		want := max(1, 2-k)<<k + 1
		if k > 20 {
			want = 0
		}
		apart(t, fmt.Sprint(k, " roots"), d, last, want)
		b, ok := bound.Of(d, last)
		same(t, "Of", of{b, ok}, of{bound.Bound{U: max(1, 2-k), K: k}, true})
		last = d.Root(last)
	}
	last = d.Leaf(0)
	for k := range 30 {
		want := 1
		if k > 20 {
			want = 0
		}
		apart(t, fmt.Sprint(k, " roots of 0"), d, last, want)
		last = d.Root(last)
	}
}

// separated holds the values of the nodes of a Dag that are defined and not 0 against their Seps.
func separated(t *testing.T, d *dag.Dag, greatest int) (defined int) {
	t.Helper()
	nodes := d.All()
	reach := 1
	var seps []int
	for id := range nodes {
		sep, ok := bound.Sep(d, id)
		if !ok || sep > greatest {
			return 0
		}
		seps = append(seps, sep)
		reach = max(reach, sep)
	}
	for id, v := range values(nodes, reach) {
		if v == nil || v.Sign() == 0 {
			continue
		}
		defined++
		least := new(big.Float).SetMantExp(big.NewFloat(1), -seps[id])
		if v.Abs(v).Cmp(least) < 0 {
			t.Fatalf("%v: node %d is %g, which is less than 2^-%d", nodes, id, v, seps[id])
		}
	}
	return defined
}

func TestP1102IsLessThanNumbers(t *testing.T) {
	value := func(r *rand.Rand) float64 { return float64(r.Intn(40)-5) / float64(int(1)<<max(0, r.Intn(6)-2)) }
	r := rand.New(rand.NewSource(13))
	defined := 0
	for range 3000 {
		defined += separated(t, anyDag(r, value, 1+r.Intn(14)), 2000)
	}
	if defined < 5000 {
		t.Errorf("only %d numbers", defined)
	}
}

func TestP1102IsLessThanSmallNumbers(t *testing.T) {
	for _, l := range [][4]float64{{10, 11, 5, 18}, {2, 3, 5, 6}, {2, 8, 0, 17}, {5, 26, 7, 22}, {1 << 20, 1<<20 + 2, 1<<20 + 1, 1<<20 + 1}} {
		d := dag.New(true)
		root := func(v float64) int { return d.Root(d.Leaf(v)) }
		x := d.Sub(d.Add(root(l[0]), root(l[1])), d.Add(root(l[2]), root(l[3])))
		inverse := d.Div(d.Leaf(1), x)
		d.Root(d.Mul(x, x))
		d.Sub(d.Mul(inverse, x), d.Leaf(1))
		if separated(t, d, 1<<14) < 8 {
			t.Error("undefined")
		}
	}
	for _, n := range []int{1, 2, 3, 5, 10, 30, 100} {
		d := dag.New(true)
		// The numerator and the denominator of this have conjugates that are as great as it is small.
		x := factors(d, d.Sub(d.Root(d.Leaf(2)), d.Leaf(1)), n)
		y := factors(d, d.Sub(d.Leaf(1), d.Div(d.Root(d.Leaf(0.75)), d.Leaf(0.875))), n)
		d.Sub(x, y)
		d.Root(x)
		if separated(t, d, 1<<14) < 6 {
			t.Error("undefined")
		}
	}
}
