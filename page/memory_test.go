package page_test

import (
	"bytes"
	"slices"
	"testing"

	"coffret/api"
	"coffret/block"
	"coffret/page"
)

// spoil writes over a list, its spare room too.
func spoil(b []byte) {
	room := b[:cap(b)]
	for i := range room {
		room[i] = 99
	}
}

// TestNothingChanged: what is handed in stays as it is, with what stands in its spare room (W6).
func TestNothingChanged(t *testing.T) {
	disk := block.New(32).Disk()
	for _, n := range []int{0, 1, 500, 4084, api.MaxBody, api.MaxBody + 1} {
		all := bytes.Repeat([]byte{8}, 5000)
		before := slices.Clone(all)
		if _, e := page.Make(3, 2, all[:n]); e != api.OK && n <= api.MaxBody {
			t.Fatal(n, e)
		}
		if err := page.Write(disk, 3, 2, all[:n]); err != nil && n <= api.MaxBody {
			t.Fatal(n, err)
		}
		if !slices.Equal(all, before) {
			t.Errorf("a body of %d bytes has changed", n)
		}
	}
	for _, b := range [][]byte{written(3, 2, 2, 7, 8), written(3, 0, 0), other(written(3, 2, 1, 4), 0, 1)} {
		all := append(b, 5, 5, 5, 5)
		before := slices.Clone(all)
		page.Open(all[:api.PageSize], 3)
		page.Open(all[:api.PageSize], 4)
		page.Open(all, 3)
		if !slices.Equal(all, before) {
			t.Error("a page's bytes have changed")
		}
	}
}

// TestMakeNew: a page shares no memory with the body, nor with another page (W6).
func TestMakeNew(t *testing.T) {
	for _, n := range []int{0, 1, api.MaxBody} {
		body := bytes.Repeat([]byte{8}, n)
		want := written(3, 2, n, body...)
		one, _ := page.Make(3, 2, body)
		two, _ := page.Make(3, 2, body)
		spoil(body)
		if !bytes.Equal(one, want) {
			t.Errorf("a page shares its body of %d bytes", n)
		}
		spoil(one)
		if !bytes.Equal(two, want) {
			t.Errorf("two pages share memory, with %d bytes", n)
		}
		wantMake(t, 3, 2, bytes.Repeat([]byte{8}, n))
	}
}

// TestOpenNew: a body shares no memory with the page, nor with another body (W6).
func TestOpenNew(t *testing.T) {
	for _, n := range []int{0, 1, api.MaxBody} {
		want := bytes.Repeat([]byte{8}, n)
		b := written(3, 2, n, want...)
		_, one, _ := page.Open(b, 3)
		_, two, _ := page.Open(b, 3)
		spoil(one)
		if !bytes.Equal(b, written(3, 2, n, want...)) || !bytes.Equal(two, want) {
			t.Errorf("a body of %d bytes is shared", n)
		}
		spoil(b)
		if !bytes.Equal(two, want) {
			t.Errorf("a body of %d bytes is the page's", n)
		}
	}
}

// TestDiskNew: nothing of what is written is kept, nothing of what is read is the disk's (W6).
func TestDiskNew(t *testing.T) {
	h := block.New(32)
	for _, n := range []int{0, 1, api.MaxBody} {
		want := bytes.Repeat([]byte{8}, n)
		body := slices.Clone(want)
		wantWrite(t, h.Disk(), 3, 2, body)
		spoil(body)
		wantRead(t, "spoilt ahead", h.Disk(), 3, 2, want)
		_, read, _ := page.Read(h.Disk(), 3)
		_, again, _ := page.Read(h.Disk(), 3)
		spoil(read)
		wantRead(t, "spoilt behind", h.Disk(), 3, 2, want)
		if !bytes.Equal(again, want) {
			t.Errorf("two bodies of %d bytes share memory", n)
		}
	}
}
