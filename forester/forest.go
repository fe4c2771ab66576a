package forester

import (
	"slices"
	"strings"

	"pinaster/api"
)

// Forest keeps the books of a forest.
type Forest struct {
	books
	terms
	self *Forest // this forest itself, if New returned it: a copy of it has no books of its own
}

// books are what a forest has.
type books struct {
	today   int
	acts    []api.TreeAct
	trees   []api.ForestTree
	tappers []api.Tapper
	batches []api.ForestBatch
	drums   []api.Drum
	totals  api.ForestTotals
	journal []string
}

// terms are what lines ask of the setup.
type terms struct {
	taps    []api.Right // those of UseResin
	grades  []api.RosinGrade
	advance int
}

// New returns a forest at the beginning.
func New(s api.ForestSetup) (*Forest, api.Errno) {
	if e := Check(s); e != api.OK {
		return nil, e
	}
	f := &Forest{books: books{today: s.Day}, terms: termsOf(s)}
	f.self = f
	return f, api.OK
}

// Replay does the lines of a journal.
func Replay(s api.ForestSetup, journal []string) (f *Forest, at int, e api.Errno) {
	f, e = New(s)
	if e != api.OK {
		return nil, 0, e
	}
	for i, line := range journal {
		if _, e := attempt(f.change, line); e != api.OK {
			return nil, i, e
		}
	}
	return f, len(journal), api.OK
}

// Journal returns the journal.
func (f *Forest) Journal() []string { return slices.Clone(f.kept().journal) }

// Day returns the day.
func (f *Forest) Day() int { return f.kept().today }

// Acts returns all acts of trees.
func (f *Forest) Acts() []api.TreeAct { return slices.Clone(f.kept().acts) }

// Trees returns all trees.
func (f *Forest) Trees() []api.ForestTree { return slices.Clone(f.kept().trees) }

// Tappers returns all tappers.
func (f *Forest) Tappers() []api.Tapper {
	l := slices.Clone(f.kept().tappers)
	for i := range l {
		l[i].Trees = slices.Clone(l[i].Trees)
	}
	return l
}

// Batches returns all batches.
func (f *Forest) Batches() []api.ForestBatch {
	l := slices.Clone(f.kept().batches)
	for i := range l {
		b := &l[i]
		b.Tappers, b.Resin, b.Trees = slices.Clone(b.Tappers), slices.Clone(b.Resin), slices.Clone(b.Trees)
		b.Tests = slices.Clone(b.Tests)
	}
	return l
}

// Drums returns all drums.
func (f *Forest) Drums() []api.Drum { return slices.Clone(f.kept().drums) }

// Totals returns the totals.
func (f *Forest) Totals() api.ForestTotals { return f.kept().totals }

// isMade reports whether New returned a forest.
func (f *Forest) isMade() bool { return f != nil && f.self == f }

// kept returns the books of a forest, and empty ones if New did not return it.
func (f *Forest) kept() books {
	if !f.isMade() {
		return books{}
	}
	return f.books
}

// termsOf copies the terms of a setup.
func termsOf(s api.ForestSetup) terms {
	t := terms{grades: slices.Clone(s.Grades), advance: s.Advance}
	for i := range t.grades {
		t.grades[i].Name = strings.Clone(t.grades[i].Name)
	}
	for _, r := range s.Rights {
		if r.Use == api.UseResin {
			r.Name = strings.Clone(r.Name)
			t.taps = append(t.taps, r)
		}
	}
	return t
}

// The names of what is in books: the index of the one that has a name, or -1.

func (b books) tree(tag string) int {
	return find(b.trees, func(t api.ForestTree) bool { return t.Tag == tag })
}

func (b books) tapper(name string) int {
	return find(b.tappers, func(t api.Tapper) bool { return t.Name == name })
}

func (b books) batch(name string) int {
	return find(b.batches, func(x api.ForestBatch) bool { return x.Name == name })
}

func (b books) drum(name string) int {
	return find(b.drums, func(d api.Drum) bool { return d.Name == name })
}

func (b books) has(name string) bool {
	return max(b.tree(name), b.tapper(name), b.batch(name), b.drum(name)) >= 0
}

// find returns the index of the first element of which something is so, or -1.
func find[T any](list []T, is func(T) bool) int {
	for i, x := range list {
		if is(x) {
			return i
		}
	}
	return -1
}
