package pipe

// table has items by their keys, which stand in an order: a tree in which a node's level tells how deep what hangs on it is, so that no way down is long.
type table[K, V any] struct {
	order func(a, b K) int
	root  *node[K, V]
}

// node has smaller keys left and greater ones right. Left stands one level lower; right may stand on the same one, but not right of right.
type node[K, V any] struct {
	key         K
	item        *V
	left, right *node[K, V]
	level       int
}

// find is the item of a key; nil: there is none.
func (t *table[K, V]) find(key K) *V {
	n := t.root
	for n != nil {
		switch c := t.order(key, n.key); {
		case c < 0:
			n = n.left
		case c > 0:
			n = n.right
		default:
			return n.item
		}
	}
	return nil
}

// at is the item of a key, and whether it was there; if it was not, it is, and is zero.
func (t *table[K, V]) at(key K) (*V, bool) {
	if item := t.find(key); item != nil {
		return item, true
	}
	n := &node[K, V]{key: key, item: new(V)}
	t.root = t.with(t.root, n)
	return n.item, false
}

// with is a node with one more hanging on it.
func (t *table[K, V]) with(at, n *node[K, V]) *node[K, V] {
	if at == nil {
		return n
	}
	if t.order(n.key, at.key) < 0 {
		at.left = t.with(at.left, n)
	} else {
		at.right = t.with(at.right, n)
	}
	return at.leaning().lifted()
}

// leaning turns a node so that none of its level hangs left of it.
func (n *node[K, V]) leaning() *node[K, V] {
	l := n.left
	if l == nil || l.level < n.level {
		return n
	}
	n.left, l.right = l.right, n
	return l
}

// lifted turns a node so that no two of its level hang right of it, one on the other.
func (n *node[K, V]) lifted() *node[K, V] {
	r := n.right
	if r == nil || r.right == nil || r.right.level < n.level {
		return n
	}
	n.right, r.left = r.left, n
	r.level++
	return r
}
