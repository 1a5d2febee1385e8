package tree_test

import (
	"bytes"
	"slices"
	"strings"
	"testing"

	"coffret/api"
	"coffret/block"
	"coffret/page"
	"coffret/tree"
)

// downed is a disk that is down.
func downed(h *block.Hand) *block.Hand {
	h.Arm(0, false)
	h.Disk().Sync()
	return h
}

// TestLoadNone: the root 0 is that of a tree without entries, whatever the disk (P16.8).
func TestLoadNone(t *testing.T) {
	for _, h := range []*block.Hand{disk(10), block.New(0), block.New(-1), block.New(api.MaxInt), downed(disk(10))} {
		x, pages := wantLoad(t, "none", h.Disk(), 0, model{})
		if len(pages) != 0 {
			t.Errorf("pages %v", pages)
		}
		put(t, x, model{}, "a", "1")
		wantStand(t, "one", x, model{"a": "1"})
	}
}

// TestLoadNothing: pages on which nothing stands, and those that there are not; of a disk that is down that is told first (P16.8, W4).
func TestLoadNothing(t *testing.T) {
	roots := []int{-1, -2, 1, 2, 5, 9, 10, 11, 255, 256, api.MaxPages - 1, api.MaxPages, 1 << 32, 1<<32 + 2, -1 << 32, 1 << 60, api.MaxInt / 8, api.MaxInt, api.MinInt, api.MinInt + 2}
	for _, root := range roots {
		for _, sectors := range []int{-1, 0, 7, 8, 80, 87, 8 * api.MaxPages, api.MaxInt} {
			wantNoLoad(t, "nothing", block.New(sectors).Disk(), root, api.ErrTree)
			wantNoLoad(t, "nothing, down", downed(block.New(sectors)).Disk(), root, api.ErrDown)
		}
	}
	h := disk(10)
	lay(t, h, 3, told(0, 1, cell{"a", "1"}))
	wantLoad(t, "something", h.Disk(), 3, model{"a": "1"})
	for _, root := range roots {
		wantNoLoad(t, "elsewhere", h.Disk(), root, api.ErrTree)
	}
	wantNoLoad(t, "down", downed(h).Disk(), 3, api.ErrDown)
}

// builder lays nodes on the pages of a disk, one behind another, whatever they say.
type builder struct {
	t    *testing.T
	h    *block.Hand
	next int
}

func newBuilder(t *testing.T) *builder {
	return &builder{t: t, h: disk(1000), next: 2}
}

// lay tells the page on which it lays a body.
func (b *builder) lay(body []byte) int {
	b.t.Helper()
	lay(b.t, b.h, b.next, body)
	b.next++
	return b.next - 1
}

// node lays one that is no root, and tells the cell of the node above.
func (b *builder) node(level byte, cells ...cell) cell {
	b.t.Helper()
	body := told(level, 0, cells...)
	return cell{cells[0].key, link(b.lay(body), body)}
}

// root tells its page.
func (b *builder) root(level byte, cells ...cell) int {
	b.t.Helper()
	return b.lay(told(level, 1, cells...))
}

// modelOf are entries.
func modelOf(entries ...cell) model {
	m := model{}
	for _, c := range entries {
		m[c.key] = c.value
	}
	return m
}

// rising are so many entries, keys and values of so many bytes each.
func rising(many, key, value int) []cell {
	var l []cell
	for i := range many {
		l = append(l, cell{string([]byte{byte(i + 1)}) + strings.Repeat("k", key-1), strings.Repeat("v", value)})
	}
	return l
}

// TestLoadAlone: a root that is a leaf: entries as short and as long as may be, bodies as small and as great (P16.8).
func TestLoadAlone(t *testing.T) {
	full := append(rising(3, 1000, 256), cell{"z", strings.Repeat("v", 256)}, cell{"zz", strings.Repeat("v", 36)})
	if n := len(told(0, 1, full...)); n != api.MaxBody {
		t.Fatalf("%d bytes", n)
	}
	for what, entries := range map[string][]cell{
		"one":          {{"a", "1"}},
		"no bytes":     {{"", ""}},
		"the longest":  rising(3, 1100, 256),
		"full":         full,
		"short ones":   rising(250, 1, 0),
		"no key ahead": {{"", "v"}, {"\x00", ""}},
	} {
		b := newBuilder(t)
		x, pages := wantLoad(t, what, b.h.Disk(), b.root(0, entries...), modelOf(entries...))
		if !slices.Equal(pages, []int{2}) || x.Shape() != (api.Shape{Depth: 1, Nodes: 1, Leaves: 1}) {
			t.Errorf("%s: %v, %+v", what, pages, x.Shape())
		}
	}
}

// TestLoadLevels: roots above leaves, and above nodes above leaves (P16.8).
func TestLoadLevels(t *testing.T) {
	l := rising(8, 400, 0)
	b := newBuilder(t)
	root := b.root(1, b.node(0, l[:2]...), b.node(0, l[2:4]...), b.node(0, l[4:]...))
	x, pages := wantLoad(t, "two levels", b.h.Disk(), root, modelOf(l...))
	if s := x.Shape(); !slices.Equal(pages, []int{2, 3, 4, 5}) || s != (api.Shape{Depth: 2, Nodes: 4, Leaves: 3, Least: 810, Most: 1618}) {
		t.Errorf("%v, %+v", pages, s)
	}
	b = newBuilder(t)
	one := b.node(1, b.node(0, l[:2]...), b.node(0, l[2:4]...))
	root = b.root(2, one, b.node(1, b.node(0, l[4:6]...), b.node(0, l[6:]...)))
	x, pages = wantLoad(t, "three levels", b.h.Disk(), root, modelOf(l...))
	if s := x.Shape(); len(pages) != 7 || s != (api.Shape{Depth: 3, Nodes: 7, Leaves: 4, Least: 810, Most: 826}) {
		t.Errorf("%v, %+v", pages, s)
	}
	for i, c := range l {
		remove(t, x, modelOf(l...), c.key)
		wantStand(t, "taken away", x, modelOf(l[i+1:]...))
	}
}

// TestLoadNoNode: bodies of a root that are no node's (P16.8).
func TestLoadNoNode(t *testing.T) {
	l := rising(3, 5, 5)
	whole := told(0, 1, l...)
	for what, body := range map[string][]byte{
		"no body":            nil,
		"half a head":        {0},
		"a head":             {0, 1},
		"one above none":     {1, 1},
		"no root":            told(0, 0, l...),
		"another mark":       told(0, 2, l...),
		"a key twice":        told(0, 1, l[0], l[0]),
		"a key twice, later": told(0, 1, l[0], l[1], cell{l[1].key, ""}),
		"keys that fall":     told(0, 1, l[0], l[2], l[1]),
		"the first one":      told(0, 1, l[1], l[0], l[2]),
		"the empty key":      told(0, 1, l[0], cell{"", ""}),
		"a long key":         told(0, 1, cell{strings.Repeat("k", 1101), ""}),
		"a long value":       told(0, 1, cell{"a", strings.Repeat("v", 257)}),
		"no links":           told(1, 1, l...),
		"links to nothing":   told(1, 1, rising(3, 5, 8)...),
		"many levels":        told(255, 1, rising(3, 5, 8)...),
		"a byte behind":      append(bytes.Clone(whole), 0),
		"three bytes behind": append(bytes.Clone(whole), 0, 0, 0),
		"a key behind":       append(bytes.Clone(whole), 1, 0, 0, 0),
		"a value behind":     append(bytes.Clone(whole), 1, 0, 1, 0, 255),
		"great lengths":      {0, 1, 255, 255, 255, 255, 1, 2, 3},
	} {
		b := newBuilder(t)
		wantNoLoad(t, what, b.h.Disk(), b.lay(body), api.ErrTree)
	}
	for n := range len(whole) {
		b := newBuilder(t)
		root := b.lay(whole[:n])
		if n == 2+14 || n == 2+28 {
			wantLoad(t, "some of it", b.h.Disk(), root, modelOf(l[:n/14]...))
		} else {
			wantNoLoad(t, "some of it", b.h.Disk(), root, api.ErrTree)
		}
	}
}

// TestLoadSmall: nodes that are no roots have at least MinBody bytes, and those above others two of these; roots may be smaller (P16.6, P16.8).
func TestLoadSmall(t *testing.T) {
	l := rising(8, 400, 0)
	for less := range 3 {
		want := api.OK
		if less > 0 {
			want = api.ErrTree
		}
		tail := cell{l[1].key[:390-less], ""}
		b := newBuilder(t)
		root := b.root(1, b.node(0, l[0], tail), b.node(0, l[2:4]...))
		if _, _, err := tree.Load(b.h.Disk(), root); len(told(0, 0, l[0], tail)) != api.MinBody-less || api.Number(err) != want {
			t.Errorf("a leaf, %d less: %v", less, err)
		}
		b = newBuilder(t)
		tail = cell{l[2].key[:374-less], strings.Repeat("v", 30)}
		one := b.node(1, b.node(0, l[:2]...), b.node(0, tail, l[3]))
		root = b.root(2, one, b.node(1, b.node(0, l[4:6]...), b.node(0, l[6:]...)))
		x, _, err := tree.Load(b.h.Disk(), root)
		if api.Number(err) != want {
			t.Errorf("above leaves, %d less: %v", less, err)
		}
		if less == 0 && err == nil && x.Shape().Least != api.MinBody {
			t.Errorf("%+v", x.Shape())
		}
	}
	long := rising(4, 1100, 0)
	b := newBuilder(t)
	one := b.node(1, b.node(0, long[0]))
	wantNoLoad(t, "one below", b.h.Disk(), b.root(2, one, b.node(1, b.node(0, long[1]), b.node(0, long[2]))), api.ErrTree)
	wantNoLoad(t, "one below the root", b.h.Disk(), b.root(1, b.node(0, long[:3]...)), api.ErrTree)
	wantNoLoad(t, "one below the last", b.h.Disk(), b.root(2, b.node(1, b.node(0, long[0]), b.node(0, long[1])), b.node(1, b.node(0, long[2]))), api.ErrTree)
	small := rising(300, 1, 0)[:2]
	wantNoLoad(t, "small leaves", b.h.Disk(), b.root(1, b.node(0, small[0]), b.node(0, small[1])), api.ErrTree)
	empty := told(0, 0)
	wantNoLoad(t, "an empty leaf", b.h.Disk(), b.root(1, b.node(0, long[0]), cell{"z", link(b.lay(empty), empty)}), api.ErrTree)
}

// TestLoadKinds: pages of every other kind: the root's, and that of a node below (P16.8).
func TestLoadKinds(t *testing.T) {
	l := rising(4, 400, 0)
	for kind := 1; kind < 256; kind++ {
		want := api.ErrTree
		if kind == api.PageTree {
			want = api.OK
		}
		for _, number := range []int{2, 3, 4} {
			b := newBuilder(t)
			root := b.root(1, b.node(0, l[:2]...), b.node(0, l[2:]...))
			if err := page.Write(b.h.Disk(), number, kind, bodyAt(t, b.h, number)); err != nil {
				t.Fatal(err)
			}
			if _, _, err := tree.Load(b.h.Disk(), root); api.Number(err) != want {
				t.Errorf("the page %d of the kind %d: %v", number, kind, err)
			}
		}
	}
}

// TestLoadNoTree: nodes each of which is one, but which make no tree together, though each link tells the sum of what lies there (P16.8).
func TestLoadNoTree(t *testing.T) {
	l := rising(10, 400, 0)
	for what, lay := range map[string]func(b *builder) int{
		"a level more":   func(b *builder) int { return b.root(2, b.node(0, l[:2]...), b.node(0, l[2:4]...)) },
		"a level less":   func(b *builder) int { return b.root(1, upper(b, l[:4]), upper(b, l[4:8])) },
		"unlike depths":  func(b *builder) int { return b.root(2, upper(b, l[:4]), b.node(0, l[4:6]...)) },
		"turned":         func(b *builder) int { return b.root(1, b.node(0, l[2:4]...), b.node(0, l[:2]...)) },
		"fall below":     func(b *builder) int { return b.root(1, b.node(0, l[:2]...), b.node(0, l[2], l[4], l[3])) },
		"across":         func(b *builder) int { return b.root(1, b.node(0, l[0], l[3]), b.node(0, l[2], l[4])) },
		"up to the next": func(b *builder) int { return b.root(1, b.node(0, l[0], l[2]), b.node(0, l[2], l[4])) },
		"across, above":  func(b *builder) int { return b.root(2, upper(b, l[:5]), upper(b, l[4:8])) },
		"across, far above": func(b *builder) int {
			return b.root(2, b.node(1, b.node(0, l[:2]...), b.node(0, l[2], l[6])), upper(b, l[4:8]))
		},
		"across within": func(b *builder) int {
			return b.root(2, b.node(1, b.node(0, l[0], l[3]), b.node(0, l[2], l[4])), upper(b, l[5:9]))
		},
	} {
		b := newBuilder(t)
		wantNoLoad(t, what, b.h.Disk(), lay(b), api.ErrTree)
	}
	b := newBuilder(t)
	wantLoad(t, "none of these", b.h.Disk(), b.root(2, upper(b, l[:4]), upper(b, l[4:8])), modelOf(l[:8]...))
}

// upper is a node above two leaves, the first of which has two of the entries.
func upper(b *builder, l []cell) cell {
	return b.node(1, b.node(0, l[:2]...), b.node(0, l[2:]...))
}

// TestLoadNoLink: cells that lead elsewhere, or nowhere (P16.8).
func TestLoadNoLink(t *testing.T) {
	l := rising(6, 400, 0)
	inRoot := told(0, 1, l[2:4]...)
	other := told(0, 0, l[2], l[4])
	b := newBuilder(t)
	one, two := b.node(0, l[:2]...), b.node(0, l[2:4]...)
	body := bodyAt(t, b.h, 3)
	rootAt, otherAt := b.lay(inRoot), b.lay(other)
	wantLoad(t, "right", b.h.Disk(), b.root(1, one, two), modelOf(l[:4]...))
	for what, wrong := range map[string]cell{
		"a byte less":     {two.key, two.value[:7]},
		"a byte more":     {two.key, two.value + "\x00"},
		"none":            {two.key, ""},
		"a lower key":     {two.key[:5], two.value},
		"a higher key":    {two.key + "k", two.value},
		"a key between":   {l[1].key + "k", two.value},
		"the same twice":  {two.key, one.value},
		"a root":          {two.key, link(rootAt, inRoot)},
		"another sum":     {two.key, link(3, other)},
		"another node":    {two.key, link(otherAt, body)},
		"outside":         {two.key, link(1000, body)},
		"far outside":     {two.key, link(1<<32-1, body)},
		"the page 0":      {two.key, link(0, body)},
		"an empty page":   {two.key, link(900, body)},
		"the root itself": {two.key, link(b.next, body)},
	} {
		wantNoLoad(t, what, b.h.Disk(), b.root(1, one, wrong), api.ErrTree)
	}
	wantNoLoad(t, "the first key lower", b.h.Disk(), b.root(1, cell{"", one.value}, two), api.ErrTree)
	wantNoLoad(t, "the first key higher", b.h.Disk(), b.root(1, cell{one.key + "k", one.value}, two), api.ErrTree)
	wantNoLoad(t, "twice", b.h.Disk(), b.root(1, one, one, two), api.ErrTree)
	wantLoad(t, "another node, with its sum", b.h.Disk(), b.root(1, one, cell{two.key, link(otherAt, other)}), modelOf(l[0], l[1], l[2], l[4]))
}

// TestLoadEnds: nodes below which so many ways lead to the same ones that no call that went them all would end (W1, P16.8).
func TestLoadEnds(t *testing.T) {
	b := newBuilder(t)
	const levels = 40
	keys := rising(levels+3, 400, 0)
	var below []cell
	for i := range levels + 2 {
		below = append(below, b.node(0, keys[i:i+2]...))
	}
	for level := byte(1); level <= levels; level++ {
		var l []cell
		for i := range len(below) - 1 {
			l = append(l, b.node(level, below[i:i+2]...))
		}
		below = l
	}
	wantNoLoad(t, "many ways", b.h.Disk(), b.root(levels+1, below[:2]...), api.ErrTree)
}

// flushed is a tree of some levels on a disk, and its root.
func flushed(t *testing.T, d *dice) (*block.Hand, int, model) {
	t.Helper()
	h := disk(300)
	x, m := planted(t, d, 40, sizers()["any"])
	return h, wantFlush(t, "flushed", x, h.Disk(), spaced(t, 300)), m
}

// wantOrder wants a tree of any entries that stands as trees do.
func wantOrder(t *testing.T, what string, x *tree.Tree) {
	t.Helper()
	m := model{}
	for key, value := range x.All("", "", false) {
		m[key] = value
	}
	wantStand(t, what, x, m)
	for _, key := range m.keys("", "", true) {
		remove(t, x, m, key)
		wantCounts(t, what, x, m)
	}
}

// TestLoadAnyByte: a byte of a node is another one, in a page that is whole: only of a root it may not be known (P16.8).
func TestLoadAnyByte(t *testing.T) {
	d := dice(41)
	h, root, m := flushed(t, &d)
	_, pages := wantLoad(t, "flushed", h.Disk(), root, m)
	for _, number := range pages {
		body := bodyAt(t, h, number)
		for range 40 {
			b := bytes.Clone(body)
			b[d.below(len(b))] ^= byte(1 + d.below(255))
			lay(t, h, number, b)
			if number == root {
				if x, _, err := tree.Load(h.Disk(), root); err == nil {
					wantOrder(t, "another root", x)
				}
				continue
			}
			wantNoLoad(t, "another byte", h.Disk(), root, api.ErrTree)
		}
		lay(t, h, number, body[:len(body)-1])
		wantNoLoad(t, "a byte less", h.Disk(), root, api.ErrTree)
		lay(t, h, number, body)
	}
	wantLoad(t, "as it was", h.Disk(), root, m)
}

// body is any one: a root's, or nearly one.
func (d *dice) body() []byte {
	var l []cell
	for i := range d.below(5) {
		l = append(l, cell{string([]byte{byte(i)}) + d.text(d.below(3)), d.text(d.below(9))})
	}
	b := told(byte(d.below(8)/7), 1, l...)
	for range d.below(4) / 2 {
		b[d.below(len(b))] = byte(d.below(256) >> d.below(8))
	}
	return append(b, d.text(d.below(2)*d.below(2)*d.below(9))...)
}

// TestLoadAnyBody: whatever stands in a root's page (W1, P16.8).
func TestLoadAnyBody(t *testing.T) {
	d := dice(42)
	h := disk(4)
	loaded, not := 0, 0
	for range 5000 {
		lay(t, h, 2, d.body())
		x, pages, err := tree.Load(h.Disk(), 2)
		if err != nil {
			not++
			wantNoLoad(t, "any body", h.Disk(), 2, api.ErrTree)
			continue
		}
		loaded++
		if !slices.Equal(pages, []int{2}) || x.Len() == 0 {
			t.Errorf("pages %v, %d entries", pages, x.Len())
		}
		wantOrder(t, "any body", x)
	}
	if loaded < 1000 || not < 1000 {
		t.Errorf("too few: %d, %d", loaded, not)
	}
}

// TestLoadOtherPages: a node's page has another node's body, is torn, or was never written; a node that is no root is none (P16.8).
func TestLoadOtherPages(t *testing.T) {
	d := dice(43)
	h, root, m := flushed(t, &d)
	_, pages := wantLoad(t, "flushed", h.Disk(), root, m)
	for _, number := range pages {
		body := bodyAt(t, h, number)
		for _, other := range pages {
			if other != number {
				lay(t, h, number, bodyAt(t, h, other))
				wantNoLoad(t, "another node", h.Disk(), root, api.ErrTree)
			}
		}
		lay(t, h, number, body)
		h.Disk().Sync()
		for at := 8 * number; at < 8*number+8; at++ {
			sector := h.Sector(at)
			h.Plant(at, bytes.Repeat([]byte{1}, 512))
			wantNoLoad(t, "torn", h.Disk(), root, api.ErrTree)
			h.Plant(at, sector)
		}
		if number != root {
			wantNoLoad(t, "no root", h.Disk(), number, api.ErrTree)
		}
	}
	for number := 1; number < 300; number++ {
		if !slices.Contains(pages, number) {
			wantNoLoad(t, "elsewhere", h.Disk(), number, api.ErrTree)
		}
	}
	wantLoad(t, "as it was", h.Disk(), root, m)
}

// TestLoaded: what was loaded stands as the tree that was flushed, and goes on as it would (P16.8).
func TestLoaded(t *testing.T) {
	d := dice(44)
	for what, size := range sizes() {
		x, m := planted(t, &d, 30, size)
		h, s := disk(500), spaced(t, 500)
		for range 12 {
			root := wantFlush(t, what, x, h.Disk(), s)
			waiting := h.Waiting()
			y, pages := wantLoad(t, what, h.Disk(), root, m)
			if x.Shape() != y.Shape() || h.Waiting() != waiting {
				t.Errorf("%s: %+v, %+v", what, x.Shape(), y.Shape())
			}
			s = spaced(t, 500, pages...)
			if again := wantFlush(t, what+", again", y, h.Disk(), s); again != root || h.Waiting() != waiting {
				t.Errorf("%s: Flush of what was loaded: %d, want %d", what, again, root)
			}
			wantUsed(t, what, s, pages, nil)
			x = y
			for range 25 {
				step(t, &d, x, m, size, 6)
				wantCounts(t, what, x, m)
			}
		}
	}
}
