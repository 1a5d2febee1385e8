package tree_test

import (
	"encoding/binary"
	"hash/crc32"
	"iter"
	"maps"
	"slices"
	"strings"
	"testing"

	"coffret/api"
	"coffret/block"
	"coffret/page"
	"coffret/space"
	"coffret/tree"
)

// dice are numbers that look like any, the same at each run.
type dice uint64

func (d *dice) below(n int) int {
	*d = *d*6364136223846793005 + 1442695040888963407
	return int(*d>>24) % n
}

// text is any one of so many bytes.
func (d *dice) text(n int) string {
	b := make([]byte, n)
	for i := range b {
		b[i] = byte(d.below(256))
	}
	return string(b)
}

// sizer chooses how many bytes a key, and a value, has.
type sizer func(d *dice) (int, int)

// sizers are ways to choose.
func sizers() map[string]sizer {
	return map[string]sizer{
		"short":     func(d *dice) (int, int) { return 1 + d.below(8), d.below(10) },
		"no values": func(d *dice) (int, int) { return 2 + d.below(3), 0 },
		"long":      func(d *dice) (int, int) { return api.MaxTreeKey - d.below(5), api.MaxTreeCell - d.below(5) },
		"long keys": func(d *dice) (int, int) { return api.MaxTreeKey, 0 },
		"any":       func(d *dice) (int, int) { return d.below(api.MaxTreeKey + 1), d.below(api.MaxTreeCell + 1) },
		"two kinds": func(d *dice) (int, int) { return 2 + d.below(2)*1098, d.below(2) * 256 },
		"few long":  func(d *dice) (int, int) { return 2 + d.below(40)/39*1098, d.below(9) },
		"values":    func(d *dice) (int, int) { return 3, api.MaxTreeCell },
		"halves":    func(d *dice) (int, int) { return 390 + d.below(10), d.below(3) },
	}
}

// sizes are all of them, in one order.
func sizes() iter.Seq2[string, sizer] {
	return func(tell func(string, sizer) bool) {
		all := sizers()
		for _, what := range slices.Sorted(maps.Keys(all)) {
			if !tell(what, all[what]) {
				return
			}
		}
	}
}

// entry is any one of these sizes: keys that rise often have the same bytes in front.
func (d *dice) entry(size sizer) (string, string) {
	key, value := size(d)
	head := d.text(min(key, 3))
	if key > 3 && d.below(2) == 0 {
		return head + strings.Repeat("k", key-3), d.text(value)
	}
	return head + d.text(key-len(head)), d.text(value)
}

// model is what a tree has: each key's value.
type model map[string]string

// keys are those not below from and, if to is not empty, below to, in order, or in the turned one.
func (m model) keys(from, to string, back bool) []string {
	var l []string
	for _, key := range slices.Sorted(maps.Keys(m)) {
		if key >= from && (to == "" || key < to) {
			l = append(l, key)
		}
	}
	if back {
		slices.Reverse(l)
	}
	return l
}

// bytes are what all entries count.
func (m model) bytes() int {
	n := 0
	for key, value := range m {
		n += 4 + len(key) + len(value)
	}
	return n
}

func put(t *testing.T, x *tree.Tree, m model, key, value string) {
	t.Helper()
	if e := x.Put(key, value); e != api.OK {
		t.Errorf("Put(%.20q of %d bytes, %d bytes): %v", key, len(key), len(value), e)
	}
	m[key] = value
}

func remove(t *testing.T, x *tree.Tree, m model, key string) {
	t.Helper()
	_, there := m[key]
	if is := x.Delete(key); is != there {
		t.Errorf("Delete(%.20q of %d bytes): %v", key, len(key), is)
	}
	delete(m, key)
}

// planted is a tree with entries of these sizes that count so many thousands, or a little more.
func planted(t *testing.T, d *dice, thousands int, size sizer) (*tree.Tree, model) {
	t.Helper()
	x, m := tree.New(), model{}
	grow(t, d, x, m, thousands, size)
	return x, m
}

// grow puts entries that count so many thousands more.
func grow(t *testing.T, d *dice, x *tree.Tree, m model, thousands int, size sizer) {
	t.Helper()
	for end := x.Bytes() + 1000*thousands; x.Bytes() < end; {
		key, value := d.entry(size)
		put(t, x, m, key, value)
	}
}

// step puts an entry, takes one away, or tries to.
func step(t *testing.T, d *dice, x *tree.Tree, m model, size sizer, deletes int) {
	t.Helper()
	key, value := d.entry(size)
	keys := m.keys("", "", false)
	if len(keys) > 0 && d.below(3) > 0 {
		key = keys[d.below(len(keys))]
	}
	if d.below(10) < deletes {
		remove(t, x, m, key)
	} else {
		put(t, x, m, key, value)
	}
}

func wantGet(t *testing.T, what string, x *tree.Tree, m model, key string) {
	t.Helper()
	want, there := m[key]
	if value, is := x.Get(key); value != want || is != there {
		t.Errorf("%s: Get(%.20q of %d bytes): %d bytes, %v, want %d, %v", what, key, len(key), len(value), is, len(want), there)
	}
}

// wantAll asks for the entries between two keys.
func wantAll(t *testing.T, what string, x *tree.Tree, m model, from, to string, back bool) {
	t.Helper()
	want := m.keys(from, to, back)
	at := 0
	for key, value := range x.All(from, to, back) {
		if at >= len(want) || key != want[at] || value != m[key] {
			t.Fatalf("%s: All(%.20q, %.20q, %v): %.20q is the entry %d of %d", what, from, to, back, key, at, len(want))
		}
		at++
	}
	if at != len(want) {
		t.Errorf("%s: All(%.20q, %.20q, %v): %d entries, want %d", what, from, to, back, at, len(want))
	}
}

// wantCounts asks how many entries there are, what they count, and whether the nodes may stand as they do.
func wantCounts(t *testing.T, what string, x *tree.Tree, m model) {
	t.Helper()
	bytes := m.bytes()
	if x.Len() != len(m) || x.Bytes() != bytes {
		t.Fatalf("%s: Len %d, Bytes %d, want %d, %d", what, x.Len(), x.Bytes(), len(m), bytes)
	}
	s := x.Shape()
	switch {
	case len(m) == 0 && s != api.Shape{},
		s.Nodes > 1+bytes/api.NodeShare,
		len(m) > 0 && (s.Nodes < 1 || s.Leaves < 1 || s.Depth < 1 || s.Leaves > s.Nodes),
		s.Nodes == 1 && s != api.Shape{Depth: 1, Nodes: 1, Leaves: 1},
		s.Nodes > 1 && (s.Depth < 2 || s.Leaves < 2 || s.Least < api.MinBody || s.Most > api.MaxBody || s.Least > s.Most):
		t.Fatalf("%s: Shape %+v, %d bytes", what, s, bytes)
	}
}

// wantStand asks for all that a tree tells.
func wantStand(t *testing.T, what string, x *tree.Tree, m model) {
	t.Helper()
	wantCounts(t, what, x, m)
	wantAll(t, what, x, m, "", "", false)
	wantAll(t, what, x, m, "", "", true)
	for key := range m {
		wantGet(t, what, x, m, key)
		wantGet(t, what, x, m, key+"\x00")
		wantGet(t, what, x, m, key[:len(key)/2])
	}
}

// spaced is a space of so many pages, of which the page 0 is in use, and these.
func spaced(t *testing.T, pages int, used ...int) *space.Space {
	t.Helper()
	s, e := space.New(pages, append([]int{0}, used...))
	if e != api.OK {
		t.Fatalf("space.New(%d, %v): %v", pages, used, e)
	}
	return s
}

// wantFlush tells the root.
func wantFlush(t *testing.T, what string, x *tree.Tree, d *block.Disk, s *space.Space) int {
	t.Helper()
	root, err := x.Flush(d, s)
	if err != nil || (root == 0) != (x.Len() == 0) {
		t.Fatalf("%s: Flush: %d, %v", what, root, err)
	}
	return root
}

func wantNoFlush(t *testing.T, what string, x *tree.Tree, d *block.Disk, s *space.Space, want api.Errno) {
	t.Helper()
	if root, err := x.Flush(d, s); root != 0 || err == nil || api.Number(err) != want {
		t.Errorf("%s: Flush: %d, %v, want %v", what, root, err, want)
	}
}

// wantLoad wants a tree that stands so, and tells it, and its pages.
func wantLoad(t *testing.T, what string, d *block.Disk, root int, m model) (*tree.Tree, []int) {
	t.Helper()
	x, pages, err := tree.Load(d, root)
	if x == nil || err != nil {
		t.Fatalf("%s: Load(%d): %v, %v", what, root, pages, err)
	}
	wantStand(t, what, x, m)
	if !slices.IsSorted(pages) || len(pages) != x.Shape().Nodes {
		t.Errorf("%s: Load(%d): pages %v", what, root, pages)
	}
	return x, pages
}

func wantNoLoad(t *testing.T, what string, d *block.Disk, root int, want api.Errno) {
	t.Helper()
	if x, pages, err := tree.Load(d, root); x != nil || len(pages) != 0 || err == nil || api.Number(err) != want {
		t.Errorf("%s: Load(%d): %v, %v, %v, want %v", what, root, x != nil, pages, err, want)
	}
}

// wantUsed asks a space which pages are in use, the page 0 apart, and which wait.
func wantUsed(t *testing.T, what string, s *space.Space, used, waits []int) {
	t.Helper()
	if a, b := s.Used(); !slices.Equal(a, append([]int{0}, used...)) || !slices.Equal(b, waits) {
		t.Errorf("%s: Used: %v, %v, want 0 and %v, %v", what, a, b, used, waits)
	}
}

// without are the things of a row that are not in another one.
func without(l, others []int) []int {
	return slices.DeleteFunc(slices.Clone(l), func(n int) bool { return slices.Contains(others, n) })
}

// disk is one of so many pages.
func disk(pages int) *block.Hand { return block.New(pages * api.PageSectors) }

// copied is a disk alike, nothing of which waits.
func copied(h *block.Hand) *block.Hand {
	many := h.Disk().Sectors()
	c := block.New(many)
	for at := range many {
		c.Plant(at, h.Sector(at))
	}
	return c
}

// bodyAt is the body of a tree's page.
func bodyAt(t *testing.T, h *block.Hand, number int) []byte {
	t.Helper()
	kind, body, err := page.Read(h.Disk(), number)
	if kind != api.PageTree || err != nil {
		t.Fatalf("the page %d: kind %d, %v", number, kind, err)
	}
	return body
}

// lay puts a page with this body on a disk.
func lay(t *testing.T, h *block.Hand, number int, body []byte) {
	t.Helper()
	if err := page.Write(h.Disk(), number, api.PageTree, body); err != nil {
		t.Fatalf("page.Write(%d, %d bytes): %v", number, len(body), err)
	}
}

// cell is a key with its value, or with its link.
type cell struct{ key, value string }

// told is a node's body, word by word of body.go, whatever it says.
func told(level, root byte, cells ...cell) []byte {
	b := []byte{level, root}
	for _, c := range cells {
		b = binary.LittleEndian.AppendUint16(b, uint16(len(c.key)))
		b = binary.LittleEndian.AppendUint16(b, uint16(len(c.value)))
		b = append(append(b, c.key...), c.value...)
	}
	return b
}

// link leads to a page with this body.
func link(number int, body []byte) string {
	b := binary.LittleEndian.AppendUint32(nil, uint32(number))
	return string(binary.LittleEndian.AppendUint32(b, crc32.ChecksumIEEE(body)))
}

// node is what a body tells.
type node struct {
	level, root byte
	cells       []cell
	below       []int
}

// nodeAt reads a page, word by word of body.go.
func nodeAt(t *testing.T, h *block.Hand, number int) node {
	t.Helper()
	b := bodyAt(t, h, number)
	n := node{level: b[0], root: b[1]}
	for b = b[2:]; len(b) > 0; {
		key, value := binary.LittleEndian.Uint16(b), binary.LittleEndian.Uint16(b[2:])
		c := cell{string(b[4 : 4+key]), string(b[4+key : 4+key+value])}
		if n.level > 0 {
			n.below = append(n.below, int(binary.LittleEndian.Uint32([]byte(c.value))))
		}
		n.cells = append(n.cells, c)
		b = b[4+key+value:]
	}
	return n
}
