package learn

import (
	"slices"

	"amnesty/api"
)

// memory is what a model answers from.
type memory interface {
	// learn takes in a row that is allowed, and unlearn takes it out.
	learn(row api.Row) api.Errno
	unlearn(row api.Row) api.Errno
	// all returns the rows in their order. They are those of the model itself: nobody changes them.
	all() rows
	// count returns how many rows there are of each label.
	count() tally
	image() []byte
}

// nothing is the memory of a model that is nil, or the zero value.
type nothing struct{}

func (nothing) learn(api.Row) api.Errno   { return api.ErrArg }
func (nothing) unlearn(api.Row) api.Errno { return api.ErrArg }
func (nothing) all() rows                 { return nil }
func (nothing) count() tally              { return tally{} }
func (nothing) image() []byte             { return nil }

// learned is the memory of a model that New returned. It has the rows and nothing beside them, so nothing can tell of a row that was unlearned.
type learned struct {
	rows rows
}

func (l *learned) learn(row api.Row) api.Errno {
	if len(l.rows) >= api.MaxRows {
		return api.ErrFull
	}
	at, _ := slices.BinarySearchFunc(l.rows, row, compareRows)
	l.rows = slices.Insert(l.rows, at, row)
	return api.OK
}

func (l *learned) unlearn(row api.Row) api.Errno {
	at, there := slices.BinarySearchFunc(l.rows, row, compareRows)
	if !there {
		return api.ErrNone
	}
	l.rows = slices.Delete(l.rows, at, at+1)
	return api.OK
}

func (l *learned) all() rows     { return l.rows }
func (l *learned) count() tally  { return l.rows.count() }
func (l *learned) image() []byte { return l.rows.image() }
