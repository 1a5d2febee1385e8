package tree

import (
	"errors"
	"slices"

	"coffret/api"
	"coffret/block"
	"coffret/page"
	"coffret/space"
	"coffret/sum"
)

// Flush writes what is not on the disk, into pages that it takes, lets those go that it needs no more, and tells the root's page (0: there are no entries).
func (t *Tree) Flush(d *block.Disk, s *space.Space) (int, error) {
	if used, _ := s.Used(); len(used) == 0 || used[0] != 0 {
		return 0, api.ErrArg
	}
	if t.wanted() > s.Free() {
		return 0, api.ErrFull
	}
	w := writer{disk: d, space: s, root: t.root}
	root, err := w.laid(t.root)
	if err != nil {
		w.giveBack()
		return 0, err
	}
	t.root = root
	t.leave(s)
	if root == nil {
		return 0, nil
	}
	return root.page, nil
}

// wanted is how many nodes lie on no page.
func (t *Tree) wanted() int {
	many := 0
	for n := range t.root.all() {
		if n.page == 0 {
			many++
		}
	}
	return many
}

// leave lets the pages go on which no node lies any more.
func (t *Tree) leave(s *space.Space) {
	ahead := t.pages
	t.pages = t.root.pages()
	for _, number := range ahead {
		if _, still := slices.BinarySearch(t.pages, number); !still {
			s.Drop(number)
		}
	}
}

// pages are those on which a node and all below it lie, rising.
func (n *node) pages() []int {
	var l []int
	for x := range n.all() {
		l = append(l, x.page)
	}
	slices.Sort(l)
	return l
}

// writer lays the nodes of a tree on pages.
type writer struct {
	disk  *block.Disk
	space *space.Space
	root  *node
	taken []int
}

// laid is a node like this one that lies on a page, as all below it do: itself, if it lies on one; else another one, as other trees may have this one, and lay it elsewhere.
func (w *writer) laid(n *node) (*node, error) {
	if n == nil || n.page > 0 {
		return n, nil
	}
	cells := slices.Clone(n.cells)
	for i, c := range cells {
		below, err := w.laid(c.below)
		if err != nil {
			return nil, err
		}
		cells[i].below = below
	}
	number, e := w.space.Take()
	if e != api.OK {
		return nil, e
	}
	w.taken = append(w.taken, number)
	body := bodyOf(n.level, cells, n == w.root)
	if err := page.Write(w.disk, number, api.PageTree, body); err != nil {
		return nil, err
	}
	return &node{level: n.level, cells: cells, size: n.size, page: number, sum: sum.Sum(body)}, nil
}

// giveBack gives all pages back that were taken.
func (w *writer) giveBack() {
	for _, number := range w.taken {
		w.space.Back(number)
	}
}

// Load reads a tree, and tells its pages.
func Load(d *block.Disk, root int) (*Tree, []int, error) {
	t := New()
	if root == 0 {
		return t, nil, nil
	}
	// page.Read does not tell it of a page that is not on the disk.
	if _, err := d.Read(0); errors.Is(err, api.ErrDown) {
		return nil, nil, api.ErrDown
	}
	n, is := found(d, root, true)
	if !is || !n.filled(d, "") {
		return nil, nil, api.ErrTree
	}
	t.root, t.pages = n, n.pages()
	for x := range n.all() {
		if x.level == 0 {
			t.count(x.cells, 1)
		}
	}
	return t, slices.Clone(t.pages), nil
}

// found is the node that lies on a page; false: none does. Of one above others the cells have links as yet.
func found(d *block.Disk, at int, isRoot bool) (*node, bool) {
	kind, body, err := page.Read(d, at)
	if err != nil || kind != api.PageTree {
		return nil, false
	}
	n, is := opened(body, isRoot)
	if !is {
		return nil, false
	}
	n.page, n.sum = at, sum.Sum(body)
	return n, true
}

// filled puts the nodes below a node in the place of its links; all keys have to be below to (none: there is no end). false: they make no tree. As each node has to stand between the keys that are told of it above, on no way the same one is met again: so this ends.
func (n *node) filled(d *block.Disk, to string) bool {
	if !n.rises(to) {
		return false
	}
	if n.level == 0 {
		return true
	}
	for i, c := range n.cells {
		end := to
		if i+1 < len(n.cells) {
			end = n.cells[i+1].key
		}
		below, is := n.linked(d, c)
		if !is || !below.filled(d, end) {
			return false
		}
		n.cells[i] = cell{key: c.key, below: below}
	}
	return true
}

// rises tells whether each key is above the one ahead of it, and the last one below to, if there is such an end.
func (n *node) rises(to string) bool {
	for i, c := range n.cells[1:] {
		if c.key <= n.cells[i].key {
			return false
		}
	}
	return to == "" || n.cells[len(n.cells)-1].key < to
}

// linked is the node to which the link of a cell leads; false: it is not the one that was meant.
func (n *node) linked(d *block.Disk, c cell) (*node, bool) {
	at, whole, is := linkIn(c.value)
	if !is {
		return nil, false
	}
	below, is := found(d, at, false)
	if !is || below.sum != whole || below.level != n.level-1 || below.cells[0].key != c.key || below.isSlack() {
		return nil, false
	}
	return below, true
}
