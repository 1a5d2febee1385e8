package tree

import (
	"iter"
	"slices"
	"strings"

	"coffret/api"
)

// node is never changed once a tree has it: other trees may have it, too.
type node struct {
	level int    // how many levels are below it; a leaf's is 0
	cells []cell // by rising keys
	size  int    // how many bytes its page's body has
	page  int    // on which it lies; 0: on none
	sum   int    // of that page's body
}

// cell of a leaf is an entry; of another node it is a node below, and the first key there.
type cell struct {
	key, value string
	below      *node
}

// weight is how many bytes of a body a cell has; that of an entry is what the entry counts.
func (c cell) weight() int {
	if c.below != nil {
		return api.CellHead + len(c.key) + linkSize
	}
	return api.CellHead + len(c.key) + len(c.value)
}

// made is a node of these cells, which lies on no page.
func made(level int, cells []cell) *node {
	n := &node{level: level, cells: cells, size: headSize}
	for _, c := range cells {
		n.size += c.weight()
	}
	return n
}

// parted are the nodes of these cells: one, or two, if they are too many for one.
func parted(level int, cells []cell) []*node {
	whole := made(level, cells)
	if whole.size <= api.MaxBody {
		return []*node{whole}
	}
	// The heaviest cell, an entry of 1360 bytes, still leaves each part more than 1360 and less than 4000.
	at := middle(cells, cell.weight)
	return []*node{made(level, cells[:at]), made(level, cells[at:])}
}

// middle is where a row of things is to be parted so that both parts weigh alike, as nearly as may be.
func middle[T any](row []T, weight func(T) int) int {
	whole := 0
	for _, x := range row {
		whole += weight(x)
	}
	at, least, ahead := 0, whole, 0
	for i, x := range row {
		ahead += weight(x)
		if apart := max(whole-2*ahead, 2*ahead-whole); apart < least {
			at, least = i+1, apart
		}
	}
	return at
}

// isThin tells whether a node has fewer cells than one of its level has to have.
func (n *node) isThin() bool { return len(n.cells) < min(n.level, 1)+1 }

// isSlack tells whether a node has to be joined with one beside it.
func (n *node) isSlack() bool { return n.size < api.MinBody || n.isThin() }

// joined are the nodes that stand in the place of two beside one another.
func joined(a, b *node) []*node {
	return parted(a.level, slices.Concat(a.cells, b.cells))
}

// above are the cells of the node above these.
func above(nodes []*node) []cell {
	cells := make([]cell, len(nodes))
	for i, n := range nodes {
		cells[i] = cell{key: n.cells[0].key, below: n}
	}
	return cells
}

// top is the root of a tree of these nodes, one or two; nil, if there are no entries.
func top(nodes []*node) *node {
	first := nodes[0]
	switch {
	case len(nodes) > 1:
		return made(first.level+1, above(nodes))
	case !first.isThin():
		return first
	case first.level > 0:
		return first.cells[0].below
	}
	return nil
}

// changed are the nodes, one or two, that stand in a node's place once a key has these entries, one or none. If it is one, it may be slack.
func (n *node) changed(key string, now []cell) []*node {
	if n == nil {
		return parted(0, now)
	}
	if n.level > 0 {
		return n.changedBelow(key, now)
	}
	from, there := n.place(key)
	end := from
	if there {
		end++
	}
	return n.with(from, end, now)
}

func (n *node) changedBelow(key string, now []cell) []*node {
	from := n.toward(key)
	end := from + 1
	nodes := n.cells[from].below.changed(key, now)
	if first := nodes[0]; first.isSlack() && from > 0 {
		from--
		nodes = joined(n.cells[from].below, first)
	} else if first.isSlack() {
		nodes = joined(first, n.cells[end].below)
		end++
	}
	return n.with(from, end, above(nodes))
}

// with are the nodes that have a node's cells, but other ones from one place up to another.
func (n *node) with(from, end int, now []cell) []*node {
	return parted(n.level, slices.Concat(n.cells[:from], now, n.cells[end:]))
}

// place is where a key stands among a node's cells, or would stand.
func (n *node) place(key string) (int, bool) {
	return slices.BinarySearchFunc(n.cells, key, func(c cell, key string) int {
		return strings.Compare(c.key, key)
	})
}

// toward is the cell of a node above others below which a key stands, or would stand.
func (n *node) toward(key string) int {
	at, there := n.place(key)
	if there {
		return at
	}
	return max(at-1, 0)
}

// get tells the value of a key in a node, or below it.
func (n *node) get(key string) (string, bool) {
	if n == nil {
		return "", false
	}
	if n.level > 0 {
		return n.cells[n.toward(key)].below.get(key)
	}
	at, there := n.place(key)
	if !there {
		return "", false
	}
	return n.cells[at].value, true
}

// within are the cells with keys from one on up to another one, and those that may have such below them.
func (n *node) within(from, to string) []cell {
	if n == nil {
		return nil
	}
	first, _ := n.place(from)
	if n.level > 0 {
		first = n.toward(from)
	}
	end := len(n.cells)
	if to != "" {
		end, _ = n.place(to)
	}
	return n.cells[first:max(first, end)]
}

// entries are those in a node, and below it, that Tree.All tells.
func (n *node) entries(from, to string, back bool) iter.Seq2[string, string] {
	return func(tell func(string, string) bool) {
		row := n.within(from, to)
		for i, c := range row {
			if back {
				c = row[len(row)-1-i]
			}
			if n.level == 0 {
				if !tell(c.key, c.value) {
					return
				}
				continue
			}
			for key, value := range c.below.entries(from, to, back) {
				if !tell(key, value) {
					return
				}
			}
		}
	}
}

// all are a node and all below it.
func (n *node) all() iter.Seq[*node] {
	return func(tell func(*node) bool) {
		if n == nil || !tell(n) || n.level == 0 {
			return
		}
		for _, c := range n.cells {
			for below := range c.below.all() {
				if !tell(below) {
					return
				}
			}
		}
	}
}
