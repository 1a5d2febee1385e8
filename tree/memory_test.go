package tree_test

import (
	"slices"
	"strings"
	"testing"
	"unsafe"

	"coffret/tree"
)

// within tells whether a text lies in another one's memory.
func within(part, s string) bool {
	at, from := uintptr(unsafe.Pointer(unsafe.StringData(part))), uintptr(unsafe.Pointer(unsafe.StringData(s)))
	return at >= from && at < from+uintptr(len(s))
}

// TestPutKeeps: neither the key nor the value that was handed in is kept, with all the text in which it may lie (W6).
func TestPutKeeps(t *testing.T) {
	all := strings.Repeat("some text ", 100)
	x := tree.New()
	for i := range 40 {
		x.Put(all[i:i+20], all[3*i:3*i+100])
		x.Put(all[i:i+20], all[2*i:2*i+100])
	}
	for key, value := range x.All("", "", false) {
		if within(key, all) || within(value, all) {
			t.Errorf("%q is kept", key)
		}
		if again, _ := x.Get(key); again != value {
			t.Errorf("%q is not", key)
		}
	}
}

// TestLoadNew: the pages that Load tells are nobody else's (W6).
func TestLoadNew(t *testing.T) {
	d := dice(61)
	x, m := planted(t, &d, 20, sizers()["any"])
	h, s := disk(300), spaced(t, 300)
	root := wantFlush(t, "flushed", x, h.Disk(), s)
	y, pages := wantLoad(t, "flushed", h.Disk(), root, m)
	_, again := wantLoad(t, "flushed", h.Disk(), root, m)
	room := pages[:cap(pages)]
	for i := range room {
		room[i] = 250
	}
	s = spaced(t, 300, append(slices.Clone(again), 250)...)
	for _, key := range m.keys("", "", false) {
		remove(t, y, m, key)
	}
	wantFlush(t, "all gone", y, h.Disk(), s)
	wantUsed(t, "all gone", s, []int{250}, again)
}

// TestDiskKept: a tree that was loaded, or flushed, does not look at the disk any more (P16.8).
func TestDiskKept(t *testing.T) {
	d := dice(62)
	x, m := planted(t, &d, 20, sizers()["any"])
	h := disk(300)
	root := wantFlush(t, "flushed", x, h.Disk(), spaced(t, 300))
	y, _ := wantLoad(t, "flushed", h.Disk(), root, m)
	for at := range 300 * 8 {
		h.Plant(at, nil)
	}
	downed(h)
	wantStand(t, "loaded", y, m)
	wantStand(t, "flushed", x, m)
}
