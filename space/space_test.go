package space_test

import (
	"slices"
	"testing"

	"coffret/api"
	"coffret/space"
)

// TestExamples are the chapter's.
func TestExamples(t *testing.T) {
	s := made(t, 5, 1, 3)
	if n := s.Free(); n != 3 {
		t.Errorf("Free: %d", n)
	}
	wantTake(t, s, 0, api.OK)
	wantTake(t, s, 2, api.OK)
	wantDrop(t, s, 3, api.OK)
	wantStand(t, "behind Drop", s, model("uuuwf"))
	wantTake(t, s, 4, api.OK)
	wantTake(t, s, 0, api.ErrFull)
	wantTurn(t, s, 1)
	wantTake(t, s, 3, api.OK)
	wantBack(t, s, 2, api.OK)
	wantDrop(t, s, 2, api.ErrArg)
	wantDrop(t, s, 7, api.ErrArg)
	wantTake(t, s, 2, api.OK)
	wantNone(t, 0)
	wantNone(t, 5, 5)
	wantNone(t, 5, 1, 1)
}

func wantNone(t *testing.T, pages int, used ...int) {
	t.Helper()
	if s, e := space.New(pages, used); s != nil || e != api.ErrArg {
		t.Errorf("New(%d, %v): %v, %d", pages, used, s, e)
	}
}

// TestNew: those that are told are in use, in whatever order, all others are free, none waits (P13.1).
func TestNew(t *testing.T) {
	d := dice(1)
	for _, pages := range []int{1, 2, 3, 7, 8, 9, 16, 100} {
		for many := 0; many <= pages; many++ {
			used := d.shuffled(pages)[:many]
			s, m := made(t, pages, used...), newModel(pages, used)
			wantStand(t, "new", s, m)
			wantEmptied(t, "new", s, m)
		}
	}
}

// TestNewAtLimits: the least space and the greatest one, with no page in use, with the last ones, with all (P13.1).
func TestNewAtLimits(t *testing.T) {
	for _, pages := range []int{1, api.MaxPages - 1, api.MaxPages} {
		for _, used := range [][]int{nil, {}, {0}, {pages - 1}, upTo(pages), upTo(pages)[pages/2:]} {
			s, m := made(t, pages, used...), newModel(pages, used)
			wantStand(t, "at a limit", s, m)
			wantEmptied(t, "at a limit", s, m)
		}
	}
}

// TestNoNew: no number of pages, no page, a page that stands twice (P13.1).
func TestNoNew(t *testing.T) {
	for _, pages := range append(far(), 0) {
		wantNone(t, pages)
		wantNone(t, pages, 0)
		wantNone(t, pages, 0, 0)
		wantNone(t, pages, pages)
	}
	for _, pages := range []int{1, 2, 5, 64, api.MaxPages} {
		for _, n := range append(far(), pages, pages+1) {
			wantNone(t, pages, n)
			wantNone(t, pages, 0, n)
			wantNone(t, pages, n, 0)
			wantNone(t, pages, append(upTo(pages), n)...)
		}
		for _, n := range []int{0, pages / 2, pages - 1} {
			wantNone(t, pages, n, n)
			wantNone(t, pages, append([]int{n}, upTo(pages)...)...)
			wantNone(t, pages, append(upTo(pages), n)...)
			wantNone(t, pages, append(upTo(pages), upTo(pages)...)...)
		}
	}
}

// TestTake: the least free page, which is in use then; with none that is free, nothing changes (P13.2).
func TestTake(t *testing.T) {
	for _, pages := range []int{1, 2, 3, 50, 300} {
		s, m := threefold(t, pages)
		for _, n := range m.those('f') {
			wantTake(t, s, n, api.OK)
			m[n] = 'u'
			wantStand(t, "taken", s, m)
		}
		for range 3 {
			wantTake(t, s, 0, api.ErrFull)
			wantStand(t, "full", s, m)
		}
	}
}

// TestTakeAgain: a page that comes back is taken ahead of all above it, and behind all below it (P13.2, P13.3).
func TestTakeAgain(t *testing.T) {
	s := made(t, 10)
	for n := range 7 {
		wantTake(t, s, n, api.OK)
	}
	for _, n := range []int{5, 0, 3} {
		wantBack(t, s, n, api.OK)
		wantTake(t, s, n, api.OK)
	}
	for _, n := range []int{5, 0, 3} {
		wantBack(t, s, n, api.OK)
	}
	for _, n := range []int{0, 3, 5, 7, 8, 9} {
		wantTake(t, s, n, api.OK)
	}
	wantTake(t, s, 0, api.ErrFull)
}

// TestDrop: what is in use waits then: it isn't taken, nor dropped or given back again (P13.3).
func TestDrop(t *testing.T) {
	s, m := threefold(t, 30)
	for _, n := range m.those('u') {
		wantDrop(t, s, n, api.OK)
		m[n] = 'w'
		wantStand(t, "dropped", s, m)
		wantDrop(t, s, n, api.ErrArg)
		wantBack(t, s, n, api.ErrArg)
		wantStand(t, "dropped once", s, m)
	}
	wantEmptied(t, "dropped", s, m)
}

// TestBack: what is in use is free then, ahead of any turn, and neither dropped nor given back again (P13.3).
func TestBack(t *testing.T) {
	s, m := threefold(t, 30)
	for _, n := range m.those('u') {
		wantBack(t, s, n, api.OK)
		m[n] = 'f'
		wantStand(t, "back", s, m)
		wantBack(t, s, n, api.ErrArg)
		wantDrop(t, s, n, api.ErrArg)
		wantStand(t, "back once", s, m)
	}
	wantEmptied(t, "back", s, m)
}

// TestNotInUse: pages that are free, that wait, and numbers of no page are refused, and nothing changes (P13.3, W3).
func TestNotInUse(t *testing.T) {
	for _, pages := range []int{1, 2, 3, 30, 999} {
		s, m := threefold(t, pages)
		for _, n := range slices.Concat(far(), m.those('f'), m.those('w'), []int{pages, pages + 1, -pages}) {
			wantDrop(t, s, n, api.ErrArg)
			wantBack(t, s, n, api.ErrArg)
		}
		wantStand(t, "refused", s, m)
		wantEmptied(t, "refused", s, m)
	}
}

// TestTurn: all that waited is free, once, in whatever order it was dropped (P13.4).
func TestTurn(t *testing.T) {
	d := dice(2)
	for many := range 20 {
		s, m := made(t, 20, upTo(20)...), newModel(20, upTo(20))
		wantTurn(t, s, 0)
		for _, n := range d.shuffled(20)[:many] {
			wantDrop(t, s, n, m.leave(n, 'w'))
			wantTake(t, s, 0, api.ErrFull)
		}
		wantTurn(t, s, many)
		m.turn()
		wantStand(t, "turned", s, m)
		wantTurn(t, s, 0)
		wantStand(t, "turned twice", s, m)
		wantEmptied(t, "turned", s, m)
	}
}

// TestUsed: rising, whatever the order in which pages were dropped and told to New (P13.5).
func TestUsed(t *testing.T) {
	s := made(t, 9, 8, 0, 7, 2, 5)
	wantStand(t, "new", s, model("ufuffufuu"))
	for _, n := range []int{7, 0, 5} {
		wantDrop(t, s, n, api.OK)
	}
	wantStand(t, "dropped", s, model("wfuffwfwu"))
	wantTake(t, s, 1, api.OK)
	wantStand(t, "taken", s, model("wuuffwfwu"))
	wantTurn(t, s, 3)
	wantStand(t, "turned", s, model("fuufffffu"))
}
