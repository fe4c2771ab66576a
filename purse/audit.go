package purse

import (
	"cmp"
	"iter"
	"slices"

	"pinaster/api"
)

// none stands for an entry that there is not.
const none = -1

// near is by how much entries that agree may differ.
type near struct{ api.PurseNear }

// marks tells of each entry of a book whether it is marked.
type marks [api.PurseEntries]bool

// audit is two books, with which entry of A each one of B is paired, and which entries of B were visited when one more pair was looked for in vain.
type audit struct {
	near
	a, b    []api.PurseEntry
	pair    []int
	visited marks
}

// Agree returns as many pairs of two books as possible.
func Agree(a, b []api.PurseEntry, n api.PurseNear) ([]api.PursePair, api.Errno) {
	if e := cmp.Or(checkBooks(a, b), checkNear(n)); e != api.OK {
		return nil, e
	}
	return auditOf(a, b, n).pairs(), api.OK
}

// Cover returns a cover of two books with as few entries as possible.
func Cover(a, b []api.PurseEntry, n api.PurseNear) (api.PurseCover, api.Errno) {
	if e := cmp.Or(checkBooks(a, b), checkNear(n)); e != api.OK {
		return api.PurseCover{}, e
	}
	return auditOf(a, b, n).cover(), api.OK
}

// Open returns all entries that agree with none of the other book.
func Open(a, b []api.PurseEntry, n api.PurseNear) (inA, inB []int, e api.Errno) {
	if e := cmp.Or(checkBooks(a, b), checkNear(n)); e != api.OK {
		return nil, nil, e
	}
	return near{n}.open(a, b), near{n}.open(b, a), api.OK
}

func auditOf(a, b []api.PurseEntry, n api.PurseNear) audit {
	x := audit{near: near{n}, a: a, b: b, pair: slices.Repeat([]int{none}, len(b))}
	x.search()
	return x
}

// search pairs entries, as many as possible. From each entry of A that has no pair it looks for one that agrees and has none either, or whose pair can take another one.
func (x *audit) search() {
	var find func(entry int) bool
	find = func(entry int) bool {
		for other := range x.agreeing(x.a[entry], x.b) {
			if x.visited[other] {
				continue
			}
			x.visited[other] = true
			if x.pair[other] == none || find(x.pair[other]) {
				x.pair[other] = entry
				return true
			}
		}
		return false
	}
searching:
	for {
		x.visited = marks{}
		for entry := range x.a {
			if !slices.Contains(x.pair, entry) && find(entry) {
				continue searching
			}
		}
		return
	}
}

func (x audit) pairs() []api.PursePair {
	var pairs []api.PursePair
	for entry := range x.a {
		if other := slices.Index(x.pair, entry); other != none {
			pairs = append(pairs, api.PursePair{A: entry, B: other})
		}
	}
	return pairs
}

// cover takes one entry of each pair: that of B if it was visited in vain, otherwise that of A. An entry of A from which the search looked in vain has visited all that agree with it; any other one has a pair that was not visited.
func (x audit) cover() api.PurseCover {
	var c api.PurseCover
	for other, entry := range x.pair {
		switch {
		case x.visited[other]:
			c.B = append(c.B, other)
		case entry != none:
			c.A = append(c.A, entry)
		}
	}
	slices.Sort(c.A)
	return c
}

// open returns the entries of a book that agree with none of another one.
func (n near) open(book, others []api.PurseEntry) []int {
	var list []int
	for entry, x := range book {
		if n.marks(x, others) == (marks{}) {
			list = append(list, entry)
		}
	}
	return list
}

// marks marks the entries of a book that agree with an entry.
func (n near) marks(x api.PurseEntry, book []api.PurseEntry) marks {
	var m marks
	for other := range n.agreeing(x, book) {
		m[other] = true
	}
	return m
}

// agreeing produces the entries of a book that agree with an entry.
func (n near) agreeing(x api.PurseEntry, book []api.PurseEntry) iter.Seq[int] {
	return func(yield func(int) bool) {
		for other, y := range book {
			if n.agree(x, y) && !yield(other) {
				return
			}
		}
	}
}

func (n near) agree(x, y api.PurseEntry) bool {
	return x.Family == y.Family && distance(x.Day, y.Day) <= n.Days && distance(x.Grams, y.Grams) <= n.Grams
}

func distance(a, b int) int { return max(a-b, b-a) }
