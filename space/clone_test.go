package space_test

import (
	"testing"

	"coffret/api"
	"coffret/space"
)

// TestClone: it stands alike, and what is done to either isn't seen by the other (P13.5).
func TestClone(t *testing.T) {
	changes := map[string]func(s *space.Space, m model){
		"Take":      func(s *space.Space, m model) { s.Take(); m.take() },
		"all taken": func(s *space.Space, m model) { takeAll(s); takeAllOf(m) },
		"Drop":      func(s *space.Space, m model) { s.Drop(2); m.leave(2, 'w') },
		"Back":      func(s *space.Space, m model) { s.Back(2); m.leave(2, 'f') },
		"Turn":      func(s *space.Space, m model) { s.Turn(); m.turn() },
		"none":      func(*space.Space, model) {},
	}
	for one, change := range changes {
		for other, later := range changes {
			s, m := threefold(t, 30)
			c, n := s.Clone(), model(string(m))
			wantStand(t, "a clone", c, n)
			change(s, m)
			wantStand(t, one+", the clone", c, n)
			later(c, n)
			wantStand(t, one+", "+other+" of the clone", s, m)
			wantStand(t, one+", "+other+" of the clone, the clone", c, n)
			wantEmptied(t, one+", "+other+" of the clone", s, m)
			wantEmptied(t, one+", "+other+" of the clone, the clone", c, n)
		}
	}
}

func takeAll(s *space.Space) {
	for {
		if _, e := s.Take(); e != api.OK {
			return
		}
	}
}

func takeAllOf(m model) {
	for {
		if _, e := m.take(); e != api.OK {
			return
		}
	}
}

// TestClonesInTurn: many of one another, each changed between the others' changes (P13.5).
func TestClonesInTurn(t *testing.T) {
	d := dice(3)
	for range 200 {
		s, m := threefold(t, 1+d.below(20))
		spaces, models := []*space.Space{s}, []model{m}
		for range 100 {
			i := d.below(len(spaces))
			if d.below(10) == 0 && len(spaces) < 6 {
				spaces, models = append(spaces, spaces[i].Clone()), append(models, model(string(models[i])))
			}
			step(t, &d, spaces[i], models[i])
			i = d.below(len(spaces))
			wantStand(t, "one of the clones", spaces[i], models[i])
		}
		for i, s := range spaces {
			wantEmptied(t, "one of the clones", s, models[i])
		}
	}
}
