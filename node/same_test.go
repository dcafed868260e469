package node

import (
	"testing"

	"ramble/api"
)

// P8.4, R6: nil and empty lists are the same.
func TestSameOfEmpty(t *testing.T) {
	for _, isLeaf := range []bool{true, false} {
		a := api.Node{Leaf: isLeaf}
		b := api.Node{Leaf: isLeaf, Cells: []api.Cell{}, Keys: [][]byte{}, Kids: []int{}}
		if !same(t, a, b) || !same(t, b, a) || !Same(a, a) || !Same(b, b) {
			t.Error("nil and empty lists of a node are not the same")
		}
		a.Cells, a.Keys = []api.Cell{{}}, [][]byte{nil}
		b.Cells, b.Keys = []api.Cell{{Key: []byte{}, Val: []byte{}}}, [][]byte{{}}
		if !same(t, a, b) || !same(t, b, a) || !Same(a, a) {
			t.Error("nil and empty bytes are not the same")
		}
	}
}

// P8.4: nodes that part in one field are not the same.
func TestSameFieldByField(t *testing.T) {
	make := func() api.Node {
		return api.Node{Leaf: true, Cells: []api.Cell{here("a", "v"), {Key: []byte("b"), Val: []byte("w"), Over: 3, Len: 70}}, Keys: [][]byte{[]byte("k"), []byte("l")}, Kids: []int{5, 6, 7}}
	}
	for i, change := range []func(n *api.Node){
		func(n *api.Node) { n.Leaf = false },
		func(n *api.Node) { n.Cells[0].Key = []byte("b") },
		func(n *api.Node) { n.Cells[1].Key = []byte("ba") },
		func(n *api.Node) { n.Cells[1].Key = nil },
		func(n *api.Node) { n.Cells[0].Val = []byte("V") },
		func(n *api.Node) { n.Cells[1].Val = nil },
		func(n *api.Node) { n.Cells[1].Over = 4 },
		func(n *api.Node) { n.Cells[0].Over = 1 },
		func(n *api.Node) { n.Cells[1].Len = 71 },
		func(n *api.Node) { n.Cells[0].Len = -1 },
		func(n *api.Node) { n.Cells = n.Cells[:1] },
		func(n *api.Node) { n.Cells = nil },
		func(n *api.Node) { n.Cells = append(n.Cells, api.Cell{}) },
		func(n *api.Node) { n.Cells[0], n.Cells[1] = n.Cells[1], n.Cells[0] },
		func(n *api.Node) { n.Keys[1] = []byte("m") },
		func(n *api.Node) { n.Keys[0] = nil },
		func(n *api.Node) { n.Keys = n.Keys[:1] },
		func(n *api.Node) { n.Keys = nil },
		func(n *api.Node) { n.Keys = append(n.Keys, nil) },
		func(n *api.Node) { n.Keys[0], n.Keys[1] = n.Keys[1], n.Keys[0] },
		func(n *api.Node) { n.Kids[0] = -5 },
		func(n *api.Node) { n.Kids[2] = 8 },
		func(n *api.Node) { n.Kids = n.Kids[:2] },
		func(n *api.Node) { n.Kids = nil },
		func(n *api.Node) { n.Kids = append(n.Kids, 0) },
	} {
		n := make()
		if !same(t, n, make()) {
			t.Fatal("a node is not the same as itself")
		}
		change(&n)
		if same(t, n, make()) || same(t, make(), n) {
			t.Errorf("%d: %s and %s are the same", i, tell(n), tell(make()))
		}
		if !same(t, n, clone(t, n)) {
			t.Errorf("%d: %s is not the same as its clone", i, tell(n))
		}
	}
}

// P8.4: nodes of anything, each against some others.
func TestSameOfAny(t *testing.T) {
	l := anyNodes()
	for i, a := range l {
		for j := i; j < min(i+40, len(l)); j++ {
			if is := tell(a) == tell(l[j]); Same(a, l[j]) != is || Same(l[j], a) != is {
				t.Fatalf("Same(%s, %s): %v", tell(a), tell(l[j]), !is)
			}
		}
	}
}

// P8.4, R3: a clone is the same, and shares nothing: each may be changed without the other.
func TestCloneOfAny(t *testing.T) {
	for _, n := range anyNodes() {
		want(t, "Clone", clone(t, n), n)
		if !Same(Clone(n), n) {
			t.Fatalf("Clone of %s is not the same", tell(n))
		}
	}
	n := leaf(here("a", "v"), over("b", 70, 3))
	n.Keys, n.Kids = [][]byte{[]byte("k")}, []int{5, 6}
	before, m := tell(n), Clone(n)
	m.Cells[0].Key[0], m.Cells[0].Val[0], m.Cells[1].Over, m.Keys[0][0], m.Kids[1] = 'x', 'x', 9, 'x', 9
	m.Cells[1] = api.Cell{}
	if tell(n) != before {
		t.Errorf("a changed clone changed its node: %s", tell(n))
	}
}

// P1, R3: all calls, with nodes of anything, under the guard, which also finds what is shared with what was handed in.
func TestGuardOfAny(t *testing.T) {
	for i, n := range anyNodes() {
		l := probes(n)
		for j := range 3 {
			key := l[(i*3+j)%len(l)]
			find(t, n, key)
			child(t, n, key)
			insert(t, n, here(key, "v"))
			insert(t, n, over(key, 70, 1))
			remove(t, n, key)
			adopt(t, n, i%9-2, key, 7)
			disown(t, n, i%9-2)
		}
		if at := i % max(1, len(n.Cells)); at < len(n.Cells) {
			remove(t, n, string(n.Cells[at].Key))
			insert(t, n, n.Cells[at])
		}
	}
}
