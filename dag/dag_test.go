package dag_test

import (
	"fmt"
	"math"
	"math/rand"
	"slices"
	"testing"

	"compass/api"
	"compass/dag"
	"compass/fail"
)

func TestP901NewIsEmpty(t *testing.T) {
	for _, share := range []bool{false, true} {
		d := dag.New(share)
		same(t, "Len", d.Len(), 0)
		same(t, "length of All", len(d.All()), 0)
		for _, id := range []int{0, 1, -1} {
			n, ok := d.Node(id)
			same(t, "node", n, api.Node{})
			same(t, "ok", ok, false)
		}
		refuses(t, "no operands yet", d, op(api.Add, 0, 0))
		refuses(t, "no operand yet", d, root(0))
		put(t, "first", d, leaf(7), 0)
		same(t, "another is still empty", dag.New(share).Len(), 0)
	}
}

func TestP901Example(t *testing.T) {
	shared, single := dag.New(true), dag.New(false)
	sameIds(t, "New(true)", []int{shared.Leaf(1), shared.Leaf(1)}, []int{0, 0})
	sameIds(t, "New(false)", []int{single.Leaf(1), single.Leaf(1)}, []int{0, 1})
	same(t, "Len of New(true)", shared.Len(), 1)
	same(t, "Len of New(false)", single.Len(), 2)
}

func TestP901PutSharesEqualNodes(t *testing.T) {
	d := dag.New(true)
	var all []api.Node
	for _, v := range finite() {
		all = append(all, leaf(v))
	}
	for a := range 3 {
		all = append(all, root(a))
		for b := range 3 {
			for _, kind := range binaries() {
				all = append(all, op(kind, a, b))
			}
		}
	}
	for i, n := range all {
		put(t, "new", d, n, i)
		same(t, "Len", d.Len(), i+1)
	}
	for i, n := range all {
		put(t, "again", d, n, i)
	}
	sameNodes(t, "All", d.All(), all)
	for i, n := range all {
		got, ok := d.Node(i)
		sameNodes(t, "Node", []api.Node{got}, []api.Node{n})
		same(t, "ok", ok, true)
	}
}

func TestP901PutDoesNotShareUnasked(t *testing.T) {
	d := dag.New(false)
	l := []api.Node{leaf(1), leaf(1), op(api.Add, 0, 1), op(api.Add, 0, 1), op(api.Add, 1, 0), root(2), root(2)}
	for i, n := range l {
		put(t, "Put", d, n, i)
	}
	sameNodes(t, "All", d.All(), l)
	same(t, "Len", d.Len(), len(l))
}

func TestP901PutRefusesMalformed(t *testing.T) {
	for _, share := range []bool{false, true} {
		d := dag.New(share)
		put(t, "first", d, leaf(2), 0)
		put(t, "second", d, leaf(3), 1)
		put(t, "third", d, op(api.Add, 0, 1), 2)
		for _, n := range unfit(3) {
			refuses(t, fmt.Sprint(n), d, n)
		}
		put(t, "fourth", d, root(2), 3)
		put(t, "fifth", d, op(api.Div, 3, 2), 4)
		same(t, "Len", d.Len(), 5)
	}
}

func TestP901PutAtTheLimit(t *testing.T) {
	shared, single := full(t, true), full(t, false)
	for _, n := range unfit(api.MaxNodes) {
		refuses(t, fmt.Sprint("full: ", n), shared, n)
		refuses(t, fmt.Sprint("full: ", n), single, n)
	}
	put(t, "an equal node", shared, leaf(5), 5)
	put(t, "an equal node", shared, leaf(api.MaxNodes-1), api.MaxNodes-1)
	for _, n := range []api.Node{leaf(0.5), leaf(minusZero), op(api.Add, 1, 2), root(api.MaxNodes - 1)} {
		for _, d := range []*dag.Dag{shared, single} {
			id, err := d.Put(n)
			same(t, "id", id, -1)
			same(t, "error", err, fail.Limit())
			same(t, "Len", d.Len(), api.MaxNodes)
		}
	}
	id, err := single.Put(leaf(5))
	same(t, "id of an equal node that is not shared", id, -1)
	same(t, "error", err, fail.Limit())
}

func TestP901PutLastNode(t *testing.T) {
	d := dag.New(true)
	for i := range api.MaxNodes - 1 {
		put(t, "Put", d, leaf(float64(i)), i)
	}
	last := op(api.Add, 0, api.MaxNodes-2)
	put(t, "the last node", d, last, api.MaxNodes-1)
	put(t, "the last node again", d, last, api.MaxNodes-1)
	id, err := d.Put(op(api.Sub, 0, api.MaxNodes-1))
	same(t, "one more", id, -1)
	same(t, "error", err, fail.Limit())
}

func TestP901NodeOfNoId(t *testing.T) {
	d := dag.New(true)
	d.Leaf(1)
	d.Leaf(2)
	for _, id := range []int{2, 3, -1, -2, minInt, maxInt, 1 << 32} {
		n, ok := d.Node(id)
		same(t, "node", n, api.Node{})
		same(t, "ok", ok, false)
	}
}

func TestP901AllIsNewMemory(t *testing.T) {
	d := dag.New(false)
	d.Leaf(1)
	d.Leaf(2)
	all := d.All()
	all[0] = leaf(9)
	all = append(all[:1], leaf(8))
	sameNodes(t, "changed", all, []api.Node{leaf(9), leaf(8)})
	sameNodes(t, "All", d.All(), []api.Node{leaf(1), leaf(2)})
	before := d.All()
	d.Leaf(3)
	sameNodes(t, "All before", before, []api.Node{leaf(1), leaf(2)})
	sameNodes(t, "All after", d.All(), []api.Node{leaf(1), leaf(2), leaf(3)})
}

func TestP901PutLikeModel(t *testing.T) {
	r := rand.New(rand.NewSource(9))
	for round := range 40 {
		share := round%2 == 0
		d, m := dag.New(share), &model{share: share}
		for range 400 {
			n := anyNode(r, len(m.nodes))
			want, malformed := m.put(n)
			count := d.Len()
			id, err := d.Put(n)
			same(t, fmt.Sprint("Put of ", n), id, want)
			if malformed {
				malformedAt(t, fmt.Sprint("Put of ", n), err, count)
			} else {
				same(t, fmt.Sprint("error of ", n), err, nil)
			}
			same(t, "Len", d.Len(), len(m.nodes))
		}
		sameNodes(t, "All", d.All(), m.nodes)
	}
}

// anyNode returns a node that often equals another one, and now and then is malformed.
func anyNode(r *rand.Rand, count int) api.Node {
	operand := func() int { return r.Intn(min(count, 8)+1) - r.Intn(2)*r.Intn(2)*r.Intn(2) }
	switch r.Intn(10) {
	case 0, 1, 2:
		return leaf(finite()[r.Intn(len(finite()))])
	case 3, 4:
		return root(operand())
	case 5:
		bad := unfit(max(count, 1))
		return bad[r.Intn(len(bad))]
	}
	return op(binaries()[r.Intn(4)], operand(), operand())
}

func TestP901Load(t *testing.T) {
	l := []api.Node{leaf(1), leaf(1), op(api.Add, 0, 1), op(api.Add, 1, 0), root(3), op(api.Div, 4, 2), root(2)}
	given := slices.Clone(l)
	d, ids, err := dag.Load(true, l...)
	same(t, "error", err, nil)
	sameIds(t, "ids", ids, []int{0, 0, 1, 1, 2, 3, 2})
	sameNodes(t, "All", d.All(), []api.Node{leaf(1), op(api.Add, 0, 0), root(1), op(api.Div, 2, 1)})
	same(t, "a Leaf is shared", d.Leaf(1), 0)
	same(t, "a root is shared", d.Root(1), 2)
	same(t, "a new node", d.Leaf(3), 4)

	d, ids, err = dag.Load(false, l...)
	same(t, "error", err, nil)
	sameIds(t, "ids", ids, []int{0, 1, 2, 3, 4, 5, 6})
	sameNodes(t, "All", d.All(), given)
	same(t, "a Leaf is not shared", d.Leaf(1), 7)
	sameNodes(t, "the arguments", l, given)
}

func TestP901LoadKeepsZeros(t *testing.T) {
	d, ids, err := dag.Load(true, leaf(0), leaf(minusZero), leaf(0), leaf(minusZero))
	same(t, "error", err, nil)
	sameIds(t, "ids", ids, []int{0, 1, 0, 1})
	sameNodes(t, "All", d.All(), []api.Node{leaf(0), leaf(minusZero)})
}

func TestP901LoadNothing(t *testing.T) {
	for _, share := range []bool{false, true} {
		d, ids, err := dag.Load(share)
		same(t, "error", err, nil)
		same(t, "number of ids", len(ids), 0)
		same(t, "Len", d.Len(), 0)
		same(t, "Leaf", d.Leaf(1), 0)
		want := 1
		if share {
			want = 0
		}
		same(t, "Leaf again", d.Leaf(1), want)
	}
}

func TestP901LoadSharesNoMemory(t *testing.T) {
	l := []api.Node{leaf(1), leaf(2)}
	d, ids, _ := dag.Load(false, l...)
	l[0] = leaf(5)
	ids[0] = 7
	sameNodes(t, "All", d.All(), []api.Node{leaf(1), leaf(2)})
	_, ids, _ = dag.Load(false, leaf(3))
	sameIds(t, "ids", ids, []int{0})
}

func TestP901LoadErrors(t *testing.T) {
	for _, share := range []bool{false, true} {
		good := []api.Node{leaf(1), leaf(1), op(api.Add, 0, 1)}
		for _, n := range unfit(3) {
			d, ids, err := dag.Load(share, slices.Concat(good, []api.Node{n, leaf(nan)})...)
			noDag(t, d, ids)
			malformedAt(t, fmt.Sprint("Load of ", n), err, 3)
		}
		// What is shared does not matter: a position is one in the argument.
		d, ids, err := dag.Load(share, root(0))
		noDag(t, d, ids)
		malformedAt(t, "a root of itself", err, 0)
		d, ids, err = dag.Load(share, leaf(1), leaf(1), op(api.Add, 1, 2))
		noDag(t, d, ids)
		malformedAt(t, "a sum with itself", err, 2)
	}
}

func TestP901LoadLimit(t *testing.T) {
	for _, share := range []bool{false, true} {
		many := slices.Repeat([]api.Node{leaf(1)}, api.MaxNodes)
		d, ids, err := dag.Load(share, many...)
		same(t, "error", err, nil)
		same(t, "number of ids", len(ids), api.MaxNodes)
		if share {
			same(t, "Len", d.Len(), 1)
		} else {
			same(t, "Len", d.Len(), api.MaxNodes)
		}
		d, ids, err = dag.Load(share, append(many, leaf(nan))...)
		noDag(t, d, ids)
		same(t, "error", err, fail.Limit())
	}
}

func noDag(t *testing.T, d *dag.Dag, ids []int) {
	t.Helper()
	same(t, "Dag beside an error", d, nil)
	same(t, "number of ids beside an error", len(ids), 0)
}

func TestP901LoadLikeModel(t *testing.T) {
	r := rand.New(rand.NewSource(90))
	for round := range 40 {
		share := round%2 == 0
		m := &model{share: share}
		var l []api.Node
		var want []int
		for i := range 300 {
			n := leaf(finite()[r.Intn(len(finite()))])
			renamed := n
			if a, b := r.Intn(i+1), r.Intn(i+1); i > 0 && r.Intn(4) > 0 {
				a, b = a%i, b%i
				n, renamed = op(1+r.Intn(4), a, b), op(0, want[a], want[b])
				if r.Intn(3) == 0 {
					n, renamed = root(a), root(want[a])
				}
				renamed.Kind = n.Kind
			}
			l = append(l, n)
			id, _ := m.put(renamed)
			want = append(want, id)
		}
		d, ids, err := dag.Load(share, l...)
		same(t, "error", err, nil)
		sameIds(t, "ids", ids, want)
		sameNodes(t, "All", d.All(), m.nodes)
	}
}

func TestP902Leaf(t *testing.T) {
	d := dag.New(true)
	for i, v := range finite() {
		same(t, fmt.Sprint("Leaf of ", v), d.Leaf(v), i)
		n, _ := d.Node(i)
		sameNodes(t, "node", []api.Node{n}, []api.Node{leaf(v)})
	}
	for _, v := range infinite() {
		same(t, fmt.Sprint("Leaf of ", v), d.Leaf(v), -1)
	}
	same(t, "Len", d.Len(), len(finite()))
}

func TestP902Int(t *testing.T) {
	d := dag.New(true)
	for i, v := range []int{0, 1, -1, 20000, 1<<53 - 1, 1 << 53, -1 << 53, 1 - 1<<53} {
		same(t, fmt.Sprint("Int of ", v), d.Int(v), i)
		n, _ := d.Node(i)
		sameNodes(t, "node", []api.Node{n}, []api.Node{leaf(float64(v))})
	}
	count := d.Len()
	for _, v := range []int{1<<53 + 1, -1<<53 - 1, 1<<53 + 2, 1 << 54, -1 << 54, 1 << 60, minInt, maxInt} {
		same(t, fmt.Sprint("Int of ", v), d.Int(v), -1)
	}
	same(t, "Len", d.Len(), count)
	same(t, "Int and Leaf are shared", d.Leaf(1), 1)
	same(t, "Int of 0 is not -0", math.Signbit(d.All()[0].Value), false)
}

func TestP902TwoOperands(t *testing.T) {
	d := dag.New(true)
	two, three := d.Leaf(2), d.Leaf(3)
	ids := []int{d.Add(two, three), d.Sub(two, three), d.Mul(two, three), d.Div(two, three), d.Root(two)}
	sameIds(t, "ids", ids, []int{2, 3, 4, 5, 6})
	sameIds(t, "the same again", []int{d.Add(0, 1), d.Sub(0, 1), d.Mul(0, 1), d.Div(0, 1), d.Root(0)}, ids)
	sameIds(t, "the other way round", []int{d.Add(1, 0), d.Sub(1, 0), d.Mul(1, 0), d.Div(1, 0), d.Root(1)}, []int{7, 8, 9, 10, 11})
	sameNodes(t, "All", d.All(), []api.Node{
		leaf(2), leaf(3), op(api.Add, 0, 1), op(api.Sub, 0, 1), op(api.Mul, 0, 1), op(api.Div, 0, 1), root(0),
		op(api.Add, 1, 0), op(api.Sub, 1, 0), op(api.Mul, 1, 0), op(api.Div, 1, 0), root(1),
	})
}

func TestP902UndefinedIsNotAsked(t *testing.T) {
	d := dag.New(true)
	zero, minus := d.Leaf(0), d.Leaf(-1)
	same(t, "a quotient by 0", d.Div(minus, zero), 2)
	same(t, "a root of a negative number", d.Root(minus), 3)
}

func TestP902AddAndMulFromTheLeft(t *testing.T) {
	d := dag.New(false)
	for range 4 {
		d.Leaf(1)
	}
	same(t, "Add", d.Add(3, 1, 2, 0), 6)
	same(t, "Mul", d.Mul(3, 1, 2, 6, 6), 10)
	sameNodes(t, "All", d.All()[4:], []api.Node{
		op(api.Add, 3, 1), op(api.Add, 4, 2), op(api.Add, 5, 0),
		op(api.Mul, 3, 1), op(api.Mul, 7, 2), op(api.Mul, 8, 6), op(api.Mul, 9, 6),
	})
	l := []int{0, 1, 2}
	d.Add(l...)
	d.Mul(l...)
	sameIds(t, "the arguments", l, []int{0, 1, 2})
}

func TestP902AddAndMulShareSteps(t *testing.T) {
	d := dag.New(true)
	a, b := d.Leaf(2), d.Leaf(3)
	same(t, "a + b", d.Add(a, b), 2)
	same(t, "a + b + a", d.Add(a, b, a), 3)
	same(t, "a + b + a + b", d.Add(a, b, a, b), 4)
	same(t, "a b", d.Mul(a, b), 5)
	same(t, "a b a", d.Mul(a, b, a), 6)
	same(t, "a b again", d.Mul(a, b), 5)
}

func TestP902AddAndMulOfFew(t *testing.T) {
	d := dag.New(false)
	same(t, "Add of none", d.Add(), 0)
	same(t, "Mul of none", d.Mul(), 1)
	same(t, "Add of none again", d.Add(), 2)
	sameNodes(t, "All", d.All(), []api.Node{leaf(0), leaf(1), leaf(0)})
	for id := range 3 {
		same(t, "Add of one", d.Add(id), id)
		same(t, "Mul of one", d.Mul(id), id)
	}
	for _, id := range []int{3, -1, 65536, minInt, maxInt} {
		same(t, "Add of no id", d.Add(id), -1)
		same(t, "Mul of no id", d.Mul(id), -1)
	}
	same(t, "Len", d.Len(), 3)
	s := dag.New(true)
	sameIds(t, "shared", []int{s.Add(), s.Mul(), s.Add(), s.Mul(), s.Leaf(0), s.Leaf(1)}, []int{0, 1, 0, 1, 0, 1})
}

func TestP902OperandsThatAreNone(t *testing.T) {
	d := dag.New(true)
	d.Leaf(2)
	d.Leaf(3)
	for _, id := range []int{2, 3, -1, 65535, 65536, 1 << 32, minInt, maxInt} {
		ids := []int{
			d.Add(id, 0), d.Add(0, id), d.Add(id, 0, 1), d.Mul(id, 0), d.Mul(0, id), d.Mul(id, 0, 1),
			d.Sub(id, 0), d.Sub(0, id), d.Div(id, 0), d.Div(0, id), d.Root(id),
		}
		sameIds(t, fmt.Sprint("with ", id), ids, slices.Repeat([]int{-1}, len(ids)))
		same(t, "Len", d.Len(), 2)
	}
	same(t, "Add of a later operand that is none", d.Add(0, 1, 99, 0), -1)
	same(t, "Mul of a later operand that is none", d.Mul(0, 1, -1, 0), -1)
	// The steps before have been put.
	sameNodes(t, "All", d.All()[2:], []api.Node{op(api.Add, 0, 1), op(api.Mul, 0, 1)})
}

func TestP902AtTheLimit(t *testing.T) {
	d := full(t, true)
	ids := []int{d.Leaf(0.5), d.Int(-1), d.Add(0, 1), d.Add(0, 1, 2), d.Sub(0, 1), d.Mul(0, 1), d.Div(0, 1), d.Root(0)}
	sameIds(t, "new nodes", ids, slices.Repeat([]int{-1}, len(ids)))
	sameIds(t, "nodes that exist", []int{d.Leaf(2), d.Int(3), d.Add(), d.Mul(), d.Add(4), d.Mul(5)}, []int{2, 3, 0, 1, 4, 5})
	same(t, "Len", d.Len(), api.MaxNodes)
	s := full(t, false)
	sameIds(t, "not shared", []int{s.Leaf(2), s.Int(3), s.Add(), s.Mul(), s.Add(4), s.Mul(5)}, []int{-1, -1, -1, -1, 4, 5})
}

func TestP902Nil(t *testing.T) {
	var d *dag.Dag
	for _, n := range []api.Node{leaf(1), leaf(nan), op(api.Add, 0, 0), {Kind: 9}} {
		id, err := d.Put(n)
		same(t, "id", id, -1)
		same(t, "error", err, fail.Malformed())
	}
	ids := []int{
		d.Leaf(1), d.Leaf(nan), d.Int(1), d.Int(maxInt), d.Add(), d.Add(0), d.Add(0, 0), d.Add(0, 0, 0),
		d.Sub(0, 0), d.Mul(), d.Mul(0), d.Mul(0, 0), d.Mul(-1), d.Div(0, 0), d.Root(0),
	}
	sameIds(t, "ids", ids, slices.Repeat([]int{-1}, len(ids)))
	same(t, "Len", d.Len(), 0)
	same(t, "length of All", len(d.All()), 0)
	for _, id := range []int{0, -1, 5} {
		n, ok := d.Node(id)
		same(t, "node", n, api.Node{})
		same(t, "ok", ok, false)
	}
}

func TestP901ZeroDagIsEmpty(t *testing.T) {
	var d dag.Dag
	put(t, "zero Dag", &d, leaf(1), 0)
	put(t, "zero Dag", &d, leaf(1), 1)
	same(t, "Len", d.Len(), 2)
}
