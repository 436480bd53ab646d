package keep

import (
	"slices"

	"amnesty/api"
)

// The answers that several lines have.
const (
	bad  = "bad"
	none = "none"
	full = "full"
	due  = "due"
	gone = "gone"
	done = "ok"
)

// command runs a line in a store, with the words behind the first one, which are allowed there.
type command = func(s *Store, w []word) string

// commands returns the commands by the first words of their lines.
func commands() map[string]command {
	return map[string]command{
		"put":     (*Store).put,
		"drop":    (*Store).drop,
		"hold":    (*Store).hold,
		"free":    (*Store).free,
		"get":     (*Store).get,
		"count":   (*Store).count,
		"rank":    (*Store).rank,
		"span":    (*Store).span,
		"ask":     (*Store).ask,
		"in":      (*Store).in,
		"near":    (*Store).near,
		"line":    (*Store).line,
		"vote":    (*Store).vote,
		"guess":   (*Store).guess,
		"view":    (*Store).view,
		"digest":  (*Store).digest,
		"proof":   (*Store).proof,
		"receipt": (*Store).receipt,
		"check":   (*Store).check,
	}
}

func (s *Store) put(w []word) string {
	next := record{key: w[0].text, x: w[1].number(), y: w[2].number(), label: w[3].number(), text: w[4].text}
	old, there := s.find(next.key)
	switch {
	case old.due:
		return due
	case there:
		next.holders = old.holders
		s.remove(old)
		s.add(next)
		return "changed"
	case s.Len() >= api.MaxKept:
		return full
	}
	s.add(next)
	return "new"
}

func (s *Store) drop(w []word) string {
	r, there := s.find(w[0].text)
	switch {
	case !there:
		return none
	case len(r.holders) > 0:
		r.due = true
		s.note(r)
		return due
	}
	s.remove(r)
	return gone
}

func (s *Store) hold(w []word) string {
	r, there := s.find(w[0].text)
	holder := w[1].text
	at, held := r.heldBy(holder)
	switch {
	case !there:
		return none
	case held:
		return "held"
	case len(r.holders) >= api.MaxHolds:
		return full
	}
	r.holders = slices.Insert(r.holders, at, holder)
	s.note(r)
	return done
}

func (s *Store) free(w []word) string {
	r, there := s.find(w[0].text)
	at, held := r.heldBy(w[1].text)
	switch {
	case !there:
		return none
	case !held:
		return "free"
	}
	r.holders = slices.Delete(r.holders, at, at+1)
	if r.due && len(r.holders) == 0 {
		s.remove(r)
		return gone
	}
	s.note(r)
	return done
}
