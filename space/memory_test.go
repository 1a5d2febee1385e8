package space_test

import (
	"slices"
	"testing"

	"coffret/space"
)

// spoil writes over a list, its spare room too.
func spoil(l []int) {
	room := l[:cap(l)]
	for i := range room {
		room[i] = 99
	}
}

// TestNothingChanged: what is handed in stays as it is, with what stands in its spare room (W6).
func TestNothingChanged(t *testing.T) {
	for _, used := range [][]int{{4, 1, 3, 0, 9}, {4, 4, 3, 0, 9}, {4, 1, 30, 0, 9}} {
		before := slices.Clone(used)
		s, _ := space.New(10, used[:3])
		if s != nil {
			wantEmptied(t, "handed in", s, newModel(10, used[:3]))
			s.Back(4)
			s.Drop(1)
			s.Turn()
		}
		if !slices.Equal(used, before) {
			t.Errorf("%v was %v", used, before)
		}
	}
}

// TestNothingKept: what was handed in may be written over (W6).
func TestNothingKept(t *testing.T) {
	used := append(make([]int, 0, 20), 4, 1, 3)
	s, m := made(t, 10, used...), newModel(10, used)
	spoil(used)
	wantStand(t, "spoilt", s, m)
	wantEmptied(t, "spoilt", s, m)
}

// TestUsedIsNew: no list that Used answers shares memory with what is kept, with the other one, or with those of another call (W6).
func TestUsedIsNew(t *testing.T) {
	for pages := 1; pages < 40; pages++ {
		s, m := threefold(t, pages)
		used, waits := s.Used()
		usedAgain, waitsAgain := s.Used()
		spoil(used)
		if !slices.Equal(waits, m.those('w')) {
			t.Errorf("%d pages: those that wait stand among those in use", pages)
		}
		spoil(waits)
		if !slices.Equal(usedAgain, m.those('u')) || !slices.Equal(waitsAgain, m.those('w')) {
			t.Errorf("%d pages: two calls answer the same memory", pages)
		}
		wantStand(t, "spoilt", s, m)
		wantEmptied(t, "spoilt", s, m)
	}
}
