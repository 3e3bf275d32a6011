package table

const (
	heaviest = 3 // a side weighs at most so many times what the other does
	tilted   = 2 // a heavy side is turned itself first if its inner part weighs so many times its outer one
)

// node is the top of a search tree: the lower numbers are on its left, the higher ones on its right.
// None is changed once it is in a tree: a change makes new ones, from the top down to its place.
// So who has an old top still sees what was there then, and nothing need be copied for it.
type node[V any] struct {
	key         int
	value       V
	left, right *node[V]
	size        int
}

// count answers how many numbers there are.
func (n *node[V]) count() int {
	if n == nil {
		return 0
	}
	return n.size
}

// weight lets an empty side weigh something too, so that weights can be held against each other.
func (n *node[V]) weight() int {
	return n.count() + 1
}

// find answers the node of k; nil: there is none.
func (n *node[V]) find(k int) *node[V] {
	for n != nil && n.key != k {
		if k < n.key {
			n = n.left
		} else {
			n = n.right
		}
	}
	return n
}

// nth answers the i-th node, from 0 on, rising; there must be one.
func (n *node[V]) nth(i int) *node[V] {
	for {
		lower := n.left.count()
		switch {
		case i < lower:
			n = n.left
		case i > lower:
			n, i = n.right, i-lower-1
		default:
			return n
		}
	}
}

// rise goes over the numbers from k on, rising, and answers whether it wasn't stopped.
func (n *node[V]) rise(k int, yield func(int, V) bool) bool {
	if n == nil {
		return true
	}
	if n.key < k {
		return n.right.rise(k, yield)
	}
	return n.left.rise(k, yield) && yield(n.key, n.value) && n.right.rise(k, yield)
}

// fall goes over all, falling.
func (n *node[V]) fall(yield func(int, V) bool) {
	for ; n != nil; n = n.left {
		for k, v := range n.right.fall {
			if !yield(k, v) {
				return
			}
		}
		if !yield(n.key, n.value) {
			return
		}
	}
}

// with answers the tree in which v stands under k.
func (n *node[V]) with(k int, v V) *node[V] {
	switch {
	case n == nil:
		return &node[V]{key: k, value: v, size: 1}
	case k < n.key:
		return n.level(n.left.with(k, v), n.right)
	case k > n.key:
		return n.level(n.left, n.right.with(k, v))
	}
	return &node[V]{key: k, value: v, left: n.left, right: n.right, size: n.size}
}

// without answers the tree in which nothing stands under k; something must have stood there.
func (n *node[V]) without(k int) *node[V] {
	switch {
	case k < n.key:
		return n.level(n.left.without(k), n.right)
	case k > n.key:
		return n.level(n.left, n.right.without(k))
	case n.left == nil:
		return n.right
	case n.right == nil:
		return n.left
	}
	next := n.right.nth(0)
	return next.level(n.left, n.right.without(next.key))
}

// level answers n between two sides of which one has gained or lost a number, turned so that neither is too heavy.
// As no side's way down grows long so, no call goes deep, in whatever order the numbers come and go.
func (n *node[V]) level(left, right *node[V]) *node[V] {
	switch {
	case right.weight() > heaviest*left.weight():
		if right.left.weight() >= tilted*right.right.weight() {
			right = right.raiseLeft()
		}
		return n.between(left, right).raiseRight()
	case left.weight() > heaviest*right.weight():
		if left.right.weight() >= tilted*left.left.weight() {
			left = left.raiseRight()
		}
		return n.between(left, right).raiseLeft()
	}
	return n.between(left, right)
}

// raiseLeft answers the same numbers with the left side's top above n.
func (n *node[V]) raiseLeft() *node[V] {
	top := n.left
	return top.between(top.left, n.between(top.right, n.right))
}

// raiseRight answers the same numbers with the right side's top above n.
func (n *node[V]) raiseRight() *node[V] {
	top := n.right
	return top.between(n.between(n.left, top.left), top.right)
}

// between answers n's number and value, with other sides.
func (n *node[V]) between(left, right *node[V]) *node[V] {
	return &node[V]{key: n.key, value: n.value, left: left, right: right, size: left.count() + 1 + right.count()}
}
