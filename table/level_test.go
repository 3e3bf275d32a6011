package table

import (
	"math/rand"
	"testing"
)

// checkLevel: the numbers rise, the sizes are right, and no side is too heavy for the other; it answers the depth.
func checkLevel(t *testing.T, n *node[int]) int {
	t.Helper()
	if n == nil {
		return 0
	}
	if n.size != n.left.count()+1+n.right.count() {
		t.Fatalf("the size %d over %d and %d", n.size, n.left.count(), n.right.count())
	}
	if n.left.weight() > heaviest*n.right.weight() || n.right.weight() > heaviest*n.left.weight() {
		t.Fatalf("%d stands over %d and %d", n.key, n.left.count(), n.right.count())
	}
	if n.left != nil && n.left.key >= n.key || n.right != nil && n.right.key <= n.key {
		t.Fatalf("%d stands in no order", n.key)
	}
	return 1 + max(checkLevel(t, n.left), checkLevel(t, n.right))
}

// P1: no call goes deep, so none takes long: in whatever order numbers come and go, the tree stays level.
func TestStaysLevel(t *testing.T) {
	const n = 600
	for what, key := range map[string]func(i int) int{
		"rising":   func(i int) int { return i },
		"falling":  func(i int) int { return -i },
		"inwards":  func(i int) int { return (1 - i%2*2) * (n - i) },
		"outwards": func(i int) int { return (1 - i%2*2) * i },
	} {
		x := New[int]()
		for i := range n {
			x.Put(key(i), i)
			checkLevel(t, x.top)
		}
		if depth := checkLevel(t, x.top); depth > 20 { // each step down leaves at most three quarters of the weight
			t.Errorf("%s: %d numbers are %d deep", what, n, depth)
		}
		for i := range n {
			x.Delete(key(i))
			checkLevel(t, x.top)
		}
	}
}

// P1: nor do any calls in any order make it deep.
func TestStaysLevelInAnyOrder(t *testing.T) {
	r := rand.New(rand.NewSource(12))
	for range 40 {
		x := New[int]()
		for range 600 {
			k := r.Intn(150)
			if r.Intn(2) == 0 {
				x.Put(k, k)
			} else {
				x.Delete(k)
			}
			checkLevel(t, x.top)
		}
	}
}

// P3.3: what was answered ahead is never changed: each old tree is what it was, number by number.
func TestOldTreesStay(t *testing.T) {
	r := rand.New(rand.NewSource(13))
	x := New[int]()
	var tops []*node[int]
	var sums []int
	for range 500 {
		if k := r.Intn(60); r.Intn(3) > 0 {
			x.Put(k, r.Intn(1000))
		} else {
			x.Delete(k)
		}
		tops = append(tops, x.top)
		sums = append(sums, sumOf(x.top))
	}
	for i, top := range tops {
		if got := sumOf(top); got != sums[i] {
			t.Fatalf("the tree behind %d calls was changed", i+1)
		}
	}
}

// sumOf tells trees apart by their form, numbers and values.
func sumOf(n *node[int]) int {
	if n == nil {
		return 1
	}
	return ((sumOf(n.left)*31+n.key)*31+n.value)*31 + sumOf(n.right)*17 + n.size
}
