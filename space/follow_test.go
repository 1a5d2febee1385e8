package space_test

import (
	"testing"

	"coffret/api"
	"coffret/space"
)

// step makes a call of a space, and wants what its model answers.
func step(t *testing.T, d *dice, s *space.Space, m model) {
	t.Helper()
	n := d.below(len(m)+2) - 1
	switch d.below(8) {
	case 0, 1, 2:
		want, is := m.take()
		wantTake(t, s, want, is)
	case 3, 4:
		wantDrop(t, s, n, m.leave(n, 'w'))
	case 5, 6:
		wantBack(t, s, n, m.leave(n, 'f'))
	case 7:
		wantTurn(t, s, m.turn())
	}
}

// TestAnyCalls: behind any row of calls each page is just one of the three, the one that the model has (P13.6).
func TestAnyCalls(t *testing.T) {
	d := dice(4)
	for range 600 {
		pages := 1 + d.below(40)
		used := d.shuffled(pages)[:d.below(pages+1)]
		s, m := made(t, pages, used...), newModel(pages, used)
		for range 150 {
			step(t, &d, s, m)
			wantStand(t, "any calls", s, m)
			wantAll(t, s, pages)
		}
		wantEmptied(t, "any calls", s, m)
	}
}

// wantAll wants each page to be just one of the three, and as many together as there are.
func wantAll(t *testing.T, s *space.Space, pages int) {
	t.Helper()
	used, waits := s.Used()
	if n := len(used) + len(waits) + s.Free(); n != pages {
		t.Errorf("%d pages of %d", n, pages)
	}
	times := make([]int, pages)
	for _, l := range [][]int{used, waits} {
		for _, n := range l {
			times[n]++
		}
	}
	c := s.Clone()
	for range c.Free() {
		n, e := c.Take()
		if e != api.OK {
			t.Errorf("Take of a clone: %d", e)
		}
		times[n]++
	}
	for n, many := range times {
		if many != 1 {
			t.Errorf("page %d is %d of the three", n, many)
		}
	}
}

// TestManyPages: the same of the greatest space, whose pages are let go in any order (P13.6).
func TestManyPages(t *testing.T) {
	d := dice(5)
	s, m := made(t, api.MaxPages, upTo(api.MaxPages)...), newModel(api.MaxPages, upTo(api.MaxPages))
	for i, n := range d.shuffled(api.MaxPages) {
		switch i % 3 {
		case 0:
			wantDrop(t, s, n, api.OK)
			m[n] = 'w'
		case 1:
			wantBack(t, s, n, api.OK)
			m[n] = 'f'
		}
	}
	for range 1000 {
		step(t, &d, s, m)
	}
	wantStand(t, "many pages", s, m)
	wantAll(t, s, api.MaxPages)
	wantEmptied(t, "many pages", s, m)
}

// TestNoPageTwice: none is taken that is out, unless it came back, or was dropped and a turn was made (P13.6).
func TestNoPageTwice(t *testing.T) {
	d := dice(6)
	s := made(t, 25)
	var out, dropped [25]bool
	for range 20000 {
		n := d.below(25)
		switch d.below(6) {
		case 0:
			if s.Drop(n) == api.OK {
				dropped[n] = true
			}
		case 1:
			if s.Back(n) == api.OK {
				out[n] = false
			}
		case 2:
			s.Turn()
			for n := range dropped {
				out[n] = out[n] && !dropped[n]
			}
			dropped = [25]bool{}
		default:
			n, e := s.Take()
			if e == api.OK && out[n] {
				t.Fatalf("page %d is taken twice", n)
			}
			if e == api.OK {
				out[n] = true
			}
		}
	}
}

// ways are the ways in which a space can have come to just these pages that are free; of each space no page waits.
func ways(t *testing.T, d *dice, m model) []*space.Space {
	t.Helper()
	pages := len(m)
	told := made(t, pages, m.those('u')...)
	back, turned, mixed := made(t, pages, upTo(pages)...), made(t, pages), made(t, pages, d.shuffled(pages)[:d.below(pages+1)]...)
	takeAll(turned)
	takeAll(mixed)
	for _, n := range d.shuffled(pages) {
		if m[n] != 'f' {
			continue
		}
		wantBack(t, back, n, api.OK)
		wantDrop(t, turned, n, api.OK)
		if d.below(2) == 0 {
			wantDrop(t, mixed, n, api.OK)
			mixed.Turn()
		} else {
			wantBack(t, mixed, n, api.OK)
		}
	}
	turned.Turn()
	return []*space.Space{told, back, turned, mixed, mixed.Clone()}
}

// TestHowTheyCame: whatever the way in which the same pages came to be free, the same ones are taken, behind the same calls (P13.7).
func TestHowTheyCame(t *testing.T) {
	d := dice(7)
	for range 300 {
		pages := 1 + d.below(60)
		m := newModel(pages, d.shuffled(pages)[:d.below(pages+1)])
		all := ways(t, &d, m)
		calls := d
		for i, s := range all {
			again, n := calls, model(string(m))
			for range 60 {
				step(t, &again, s, n)
			}
			wantEmptied(t, "way "+string(rune('0'+i)), s, n)
		}
	}
}

// TestWaitingDoesNotMatter: which of the other pages wait, and which are in use, changes nothing of what is taken (P13.7).
func TestWaitingDoesNotMatter(t *testing.T) {
	d := dice(8)
	for range 300 {
		pages := 1 + d.below(60)
		m := newModel(pages, d.shuffled(pages)[:d.below(pages+1)])
		for _, s := range ways(t, &d, m) {
			for _, n := range m.those('u') {
				if d.below(2) == 0 {
					wantDrop(t, s, n, api.OK)
				}
			}
			for _, n := range m.those('f') {
				wantTake(t, s, n, api.OK)
			}
			wantTake(t, s, 0, api.ErrFull)
		}
	}
}
