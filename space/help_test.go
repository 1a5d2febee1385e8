package space_test

import (
	"slices"
	"testing"

	"coffret/api"
	"coffret/space"
)

// dice are numbers that look like any, the same at each run.
type dice uint64

func (d *dice) below(n int) int {
	*d = *d*6364136223846793005 + 1442695040888963407
	return int(*d>>33) % n
}

// shuffled are the numbers below n, in any order.
func (d *dice) shuffled(n int) []int {
	l := upTo(n)
	for i := range l {
		j := i + d.below(n-i)
		l[i], l[j] = l[j], l[i]
	}
	return l
}

// upTo are the numbers below n.
func upTo(n int) []int {
	l := make([]int, n)
	for i := range l {
		l[i] = i
	}
	return l
}

// far are numbers of no page, whatever the space, and of no space's pages.
func far() []int {
	return []int{-1, -2, -api.MaxPages, api.MaxPages + 1, 1 << 32, 1<<32 + 1, -1 << 32, 1 << 62, api.MaxInt, api.MaxInt - 1, api.MinInt, api.MinInt + 1}
}

// model is a space, page by page as the chapter's words say it: f, u or w each.
type model []byte

func newModel(pages int, used []int) model {
	m := make(model, pages)
	for n := range m {
		m[n] = 'f'
	}
	for _, n := range used {
		m[n] = 'u'
	}
	return m
}

// those are the pages of which each is that, rising.
func (m model) those(is byte) []int {
	var l []int
	for n, c := range m {
		if c == is {
			l = append(l, n)
		}
	}
	return l
}

func (m model) take() (int, api.Errno) {
	l := m.those('f')
	if len(l) == 0 {
		return 0, api.ErrFull
	}
	m[l[0]] = 'u'
	return l[0], api.OK
}

// leave is Drop, where to is w, or Back, where it is f.
func (m model) leave(n int, to byte) api.Errno {
	if !slices.Contains(m.those('u'), n) {
		return api.ErrArg
	}
	m[n] = to
	return api.OK
}

func (m model) turn() int {
	l := m.those('w')
	for _, n := range l {
		m[n] = 'f'
	}
	return len(l)
}

// made is a space that New made.
func made(t *testing.T, pages int, used ...int) *space.Space {
	t.Helper()
	s, e := space.New(pages, used)
	if s == nil || e != api.OK {
		t.Fatalf("New(%d, %v): %v", pages, used, e)
	}
	return s
}

// threefold is a space of so many pages, and its model: of three pages one is in use, one waits, one is free.
func threefold(t *testing.T, pages int) (*space.Space, model) {
	t.Helper()
	s, m := made(t, pages, upTo(pages)...), newModel(pages, upTo(pages))
	for n := range pages {
		switch n % 3 {
		case 0:
			wantDrop(t, s, n, m.leave(n, 'w'))
		case 1:
			wantBack(t, s, n, m.leave(n, 'f'))
		}
	}
	wantStand(t, "threefold", s, m)
	return s, m
}

func wantTake(t *testing.T, s *space.Space, want int, is api.Errno) {
	t.Helper()
	if n, e := s.Take(); n != want || e != is {
		t.Errorf("Take: %d, %d; want %d, %d", n, e, want, is)
	}
}

func wantDrop(t *testing.T, s *space.Space, n int, want api.Errno) {
	t.Helper()
	if e := s.Drop(n); e != want {
		t.Errorf("Drop(%d): %d; want %d", n, e, want)
	}
}

func wantBack(t *testing.T, s *space.Space, n int, want api.Errno) {
	t.Helper()
	if e := s.Back(n); e != want {
		t.Errorf("Back(%d): %d; want %d", n, e, want)
	}
}

func wantTurn(t *testing.T, s *space.Space, want int) {
	t.Helper()
	if n := s.Turn(); n != want {
		t.Errorf("Turn: %d; want %d", n, want)
	}
}

// wantStand wants all that a space tells without a change of it: which pages are in use, which wait, how many are free.
func wantStand(t *testing.T, what string, s *space.Space, m model) {
	t.Helper()
	used, waits := s.Used()
	if !slices.Equal(used, m.those('u')) || !slices.Equal(waits, m.those('w')) {
		t.Errorf("%s: Used: %v, %v; want %v, %v", what, used, waits, m.those('u'), m.those('w'))
	}
	if n, want := s.Free(), len(m.those('f')); n != want {
		t.Errorf("%s: Free: %d; want %d", what, n, want)
	}
}

// wantEmptied wants the pages that are free to be taken, and no other ones, and, behind a turn, those that waited.
func wantEmptied(t *testing.T, what string, s *space.Space, m model) {
	t.Helper()
	for range 2 {
		for _, n := range m.those('f') {
			wantTake(t, s, n, api.OK)
			m[n] = 'u'
		}
		wantTake(t, s, 0, api.ErrFull)
		wantStand(t, what, s, m)
		wantTurn(t, s, m.turn())
		wantStand(t, what, s, m)
	}
}
