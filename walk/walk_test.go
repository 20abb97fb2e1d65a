package walk_test

import (
	"fmt"
	"math/rand"
	"runtime/debug"
	"slices"
	"testing"

	"compass/api"
	"compass/dag"
	"compass/walk"
)

func TestP1001Example(t *testing.T) {
	d := dag.New(true)
	two := d.Leaf(2)
	x := d.Root(two)
	square := d.Mul(x, x)
	below(t, "x * x", d, []int{square}, []int{two, x, square})
}

func TestP1001Below(t *testing.T) {
	d, two, x, xx, z, five, y, r := sum(true)
	below(t, "a Leaf", d, []int{two}, []int{two})
	below(t, "another Leaf", d, []int{five}, []int{five})
	below(t, "a root", d, []int{x}, []int{two, x})
	below(t, "a product", d, []int{xx}, []int{two, x, xx})
	below(t, "a difference", d, []int{z}, []int{two, x, xx, z})
	below(t, "a sum", d, []int{y}, []int{two, x, xx, z, y})
	below(t, "a root of a sum", d, []int{r}, []int{two, x, xx, z, y, r})
}

func TestP1001BelowOfAllKinds(t *testing.T) {
	for _, kind := range []int{api.Add, api.Sub, api.Mul, api.Div} {
		d := dag.New(true)
		for i := range 4 {
			d.Leaf(float64(i))
		}
		id, _ := d.Put(api.Node{Kind: kind, A: 1, B: 3})
		below(t, "smaller A", d, []int{id}, []int{1, 3, 4})
		id, _ = d.Put(api.Node{Kind: kind, A: 2, B: 0})
		below(t, "smaller B", d, []int{id}, []int{0, 2, 5})
		id, _ = d.Put(api.Node{Kind: kind, A: 2, B: 2})
		below(t, "equal", d, []int{id}, []int{2, 6})
	}
	d := dag.New(true)
	d.Leaf(1)
	d.Leaf(2)
	// Its B is 0, but that is no operand.
	below(t, "a root", d, []int{d.Root(1)}, []int{1, 2})
	below(t, "a Leaf, which has no operands", d, []int{1}, []int{1})
}

func TestP1001BelowOfManyRoots(t *testing.T) {
	d, two, x, xx, z, five, y, r := sum(true)
	below(t, "none", d, nil, nil)
	below(t, "two", d, []int{z, five}, []int{two, x, xx, z, five})
	below(t, "the other way round", d, []int{five, z}, []int{two, x, xx, z, five})
	below(t, "one below the other", d, []int{x, z}, []int{two, x, xx, z})
	below(t, "one above the other", d, []int{z, x}, []int{two, x, xx, z})
	below(t, "the same", d, []int{x, x, two, x}, []int{two, x})
	below(t, "all", d, []int{r, five, y, z, xx, x, two}, []int{0, 1, 2, 3, 4, 5, 6})
}

func TestP1001BelowIgnoresNoIds(t *testing.T) {
	d, two, x, xx, _, _, _, _ := sum(true)
	for _, id := range noIds(d.Len()) {
		below(t, fmt.Sprint(id), d, []int{id}, nil)
		below(t, fmt.Sprint(id, " before"), d, []int{id, xx}, []int{two, x, xx})
		below(t, fmt.Sprint(id, " after"), d, []int{xx, id, id}, []int{two, x, xx})
	}
	below(t, "all of them", d, noIds(d.Len()), nil)
	below(t, "an empty Dag", dag.New(true), []int{0, 1, -1}, nil)
}

func TestP1001Roots(t *testing.T) {
	d, two, x, xx, z, five, y, r := sum(true)
	for _, c := range []struct{ id, want int }{{two, 0}, {x, 1}, {xx, 1}, {z, 1}, {five, 0}, {y, 1}, {r, 2}} {
		same(t, fmt.Sprint("Roots of ", c.id), walk.Roots(d, c.id), c.want)
	}
	a, b := d.Root(five), d.Root(r)
	same(t, "both operands", walk.Roots(d, d.Add(a, b)), 4)
	same(t, "all in one", walk.Roots(d, d.Root(d.Mul(d.Root(a), b))), 6)
	for _, id := range noIds(d.Len()) {
		same(t, fmt.Sprint("Roots of ", id), walk.Roots(d, id), 0)
	}
}

func TestP1001EqualNodesThatAreNotShared(t *testing.T) {
	for _, c := range []struct {
		share               bool
		ids, roots, ofFirst int
	}{{true, 3, 1, 2}, {false, 5, 2, 1}} {
		d := dag.New(c.share)
		a, b := d.Root(d.Leaf(2)), d.Root(d.Leaf(2))
		id := d.Add(a, b)
		same(t, "ids", len(walk.Below(d, id)), c.ids)
		same(t, "Roots", walk.Roots(d, id), c.roots)
		same(t, "Uses", walk.Uses(d, id)[a], c.ofFirst)
		same(t, "Depth", walk.Depth(d, id), 2)
	}
}

func TestP1001Uses(t *testing.T) {
	d, two, x, xx, z, five, y, r := sum(true)
	sameUses(t, "a Leaf", walk.Uses(d, two), map[int]int{two: 0})
	sameUses(t, "another Leaf", walk.Uses(d, five), map[int]int{five: 0})
	sameUses(t, "a root", walk.Uses(d, x), map[int]int{two: 1, x: 0})
	sameUses(t, "a product", walk.Uses(d, xx), map[int]int{two: 1, x: 2, xx: 0})
	sameUses(t, "a difference", walk.Uses(d, z), map[int]int{two: 2, x: 2, xx: 1, z: 0})
	sameUses(t, "a sum", walk.Uses(d, y), map[int]int{two: 2, x: 3, xx: 1, z: 1, y: 0})
	sameUses(t, "a root of a sum", walk.Uses(d, r), map[int]int{two: 2, x: 3, xx: 1, z: 1, y: 1, r: 0})
}

func TestP1001UsesCountsOnlyBelow(t *testing.T) {
	d := dag.New(false)
	a, b := d.Leaf(1), d.Leaf(2)
	d.Add(a, a)
	id := d.Add(a, b)
	d.Mul(id, a, b)
	d.Root(id)
	sameUses(t, "a sum", walk.Uses(d, id), map[int]int{a: 1, b: 1, id: 0})
	// The B of a root is 0, which is an id that it does not use.
	root := d.Root(b)
	sameUses(t, "a root", walk.Uses(d, root), map[int]int{b: 1, root: 0})
}

func TestP1001UsesOfNoId(t *testing.T) {
	d, _, _, _, _, _, _, _ := sum(true)
	for _, id := range noIds(d.Len()) {
		sameUses(t, fmt.Sprint("Uses of ", id), walk.Uses(d, id), nil)
	}
	sameUses(t, "an empty Dag", walk.Uses(dag.New(true), 0), nil)
}

func TestP1001Depth(t *testing.T) {
	d, two, x, xx, z, five, y, r := sum(true)
	for _, c := range []struct{ id, want int }{{two, 0}, {x, 1}, {xx, 2}, {z, 3}, {five, 0}, {y, 4}, {r, 5}} {
		same(t, fmt.Sprint("Depth of ", c.id), walk.Depth(d, c.id), c.want)
	}
	for _, ids := range [][2]int{{r, five}, {five, r}, {r, x}, {x, r}, {r, r}} {
		for kind := api.Add; kind <= api.Div; kind++ {
			id, _ := d.Put(api.Node{Kind: kind, A: ids[0], B: ids[1]})
			same(t, fmt.Sprint("Depth of ", ids), walk.Depth(d, id), 6)
		}
	}
	for _, id := range noIds(d.Len()) {
		same(t, fmt.Sprint("Depth of ", id), walk.Depth(d, id), 0)
	}
	same(t, "Depth in an empty Dag", walk.Depth(dag.New(true), 0), 0)
}

func TestP1001NilDag(t *testing.T) {
	for _, id := range []int{0, 1, -1, minInt, maxInt} {
		below(t, "Below", nil, []int{id, 0}, nil)
		same(t, "Roots", walk.Roots(nil, id), 0)
		same(t, "Uses is nil", walk.Uses(nil, id) == nil, true)
		same(t, "Depth", walk.Depth(nil, id), 0)
	}
	below(t, "no roots", nil, nil, nil)
	below(t, "a zero Dag", &dag.Dag{}, []int{0}, nil)
}

func TestP1001LikeModel(t *testing.T) {
	r := rand.New(rand.NewSource(10))
	for round := range 60 {
		d := anyDag(r, round%2 == 0, 1+r.Intn(60))
		m := model{d.All()}
		depths := m.depths()
		for id := range d.Len() {
			below(t, "Below", d, []int{id}, m.below(id))
			same(t, "Roots", walk.Roots(d, id), m.roots(id))
			sameUses(t, "Uses", walk.Uses(d, id), m.uses(id))
			same(t, "Depth", walk.Depth(d, id), depths[id])
		}
		for count := range 8 {
			var roots []int
			for range count {
				roots = append(roots, r.Intn(d.Len()+4)-2)
			}
			given := slices.Clone(roots)
			below(t, fmt.Sprint("Below ", roots), d, roots, m.below(roots...))
			sameIds(t, "the arguments", roots, given)
		}
		if !slices.Equal(d.All(), m.nodes) {
			t.Fatal("the Dag has changed")
		}
	}
}

// chain returns a Dag of MaxNodes nodes, each made of the one before it.
func chain(next func(d *dag.Dag, last int) int) (*dag.Dag, int) {
	d := dag.New(false)
	last := d.Leaf(2)
	for d.Len() < api.MaxNodes {
		last = next(d, last)
	}
	return d, last
}

func TestP1001DoesNotRecurse(t *testing.T) {
	// Recursion to the depth of these numbers takes more stack than that, and ends the program.
	defer debug.SetMaxStack(debug.SetMaxStack(128 << 10))
	const deep = api.MaxNodes - 1
	for _, c := range []struct {
		what        string
		next        func(d *dag.Dag, last int) int
		roots, uses int
	}{
		{"roots", func(d *dag.Dag, last int) int { return d.Root(last) }, deep, 1},
		{"sums", func(d *dag.Dag, last int) int { return d.Add(last, last) }, 0, 2},
		{"left operands", func(d *dag.Dag, last int) int { return d.Div(last, 0) }, 0, 1},
		{"right operands", func(d *dag.Dag, last int) int { return d.Sub(0, last) }, 0, 1},
		{"both", func(d *dag.Dag, last int) int { return d.Mul(last, max(0, last-1)) }, 0, 2},
	} {
		d, last := chain(c.next)
		ids := walk.Below(d, last)
		same(t, c.what+": number of ids", len(ids), api.MaxNodes)
		same(t, c.what+": least id", ids[0], 0)
		same(t, c.what+": ascending", slices.IsSorted(ids), true)
		same(t, c.what+": Depth", walk.Depth(d, last), deep)
		same(t, c.what+": Roots", walk.Roots(d, last), c.roots)
		uses := walk.Uses(d, last)
		same(t, c.what+": number of Uses", len(uses), api.MaxNodes)
		same(t, c.what+": Uses", uses[deep/2], c.uses)
		same(t, c.what+": Uses of the last", uses[last], 0)
	}
}

func TestP1001ManyRoots(t *testing.T) {
	d, last := chain(func(d *dag.Dag, last int) int { return d.Add(last, 0) })
	roots := slices.Repeat([]int{last, 0, -1, 7, last + 1}, 200000)
	same(t, "number of ids", len(walk.Below(d, roots...)), api.MaxNodes)
	below(t, "few ids", d, slices.Repeat([]int{2, 1, 2}, 200000), []int{0, 1, 2})
}

func TestP1001ResultsAreNewMemory(t *testing.T) {
	d, two, x, xx, _, _, _, _ := sum(true)
	ids, uses := walk.Below(d, xx), walk.Uses(d, xx)
	clear(ids)
	clear(uses)
	uses[99] = 1
	below(t, "Below", d, []int{xx}, []int{two, x, xx})
	sameUses(t, "Uses", walk.Uses(d, xx), map[int]int{two: 1, x: 2, xx: 0})
	roots := []int{two}
	walk.Below(d, roots...)[0] = 99
	sameIds(t, "the arguments", roots, []int{two})
}
