package forester

import (
	"slices"

	"pinaster/api"
	"pinaster/rosin"
)

// priced is by how many grams prices are.
const priced = 1000

func (w *work) distil() string {
	name, spirit, fume, dirt := w.names[0], w.numbers[0], w.numbers[1], w.numbers[2]
	w.needNew(name, len(w.batches), api.ForestBatches)
	b := api.ForestBatch{Name: name, Grade: api.NoGrade}
	for i := range w.names[1:] {
		tapper := w.tapperNamed(1 + i)
		resin := w.tappers[tapper].Resin
		need(!slices.Contains(b.Tappers, tapper) && resin > 0, api.ErrState)
		b.Tappers, b.Resin = append(b.Tappers, tapper), append(b.Resin, resin)
	}
	resin := sum(b.Resin...)
	need(spirit+fume+dirt <= resin, api.ErrHeavy)
	b.Rosin = resin - spirit - fume - dirt
	b.Left = b.Rosin
	for _, tapper := range b.Tappers {
		for _, tree := range w.tappers[tapper].Trees {
			b.Trees = withOnce(b.Trees, tree)
		}
		w.drain(tapper)
	}
	w.batches = append(w.batches, b)
	w.totals.Spirit += spirit
	w.totals.Fume += fume
	w.totals.Dirt += dirt
	w.totals.Rosin += b.Rosin
	return numbers(b.Rosin)
}

// drain leaves the cask of a tapper empty.
func (w *work) drain(tapper int) {
	t := &w.tappers[tapper]
	w.totals.Resin -= t.Resin
	w.totals.Water -= t.Water
	w.totals.Drain += t.Water
	t.Resin, t.Water, t.Trees = 0, 0, nil
}

func (w *work) test() string {
	b := &w.batches[w.batchNamed(0)]
	need(b.Grade == api.NoGrade, api.ErrState)
	b.Tests = with(b.Tests, api.RosinTest{Part: w.numbers[0], Read: w.numbers[1], Wrong: w.numbers[2]})
	return numbers(w.possible(b.Tests)...)
}

func (w *work) grade() string {
	b := &w.batches[w.batchNamed(0)]
	need(b.Grade == api.NoGrade, api.ErrState)
	grades := w.possible(b.Tests)
	need(len(grades) == 1, api.ErrUnproved)
	b.Grade = grades[0]
	return numbers(b.Grade)
}

// possible returns all grades that are possible with tests.
func (t terms) possible(tests []api.RosinTest) []int {
	grades, e := rosin.Grades(t.grades, tests)
	need(e == api.OK, e)
	return grades
}

func (w *work) fill() string {
	name, grams := w.names[0], w.numbers[0]
	w.needNew(name, len(w.drums), api.ForestDrums)
	batch := w.batchNamed(1)
	b := &w.batches[batch]
	need(isFrom(grams, 1, b.Left), api.ErrHeavy)
	b.Left -= grams
	w.drums = with(w.drums, api.Drum{Name: name, Batch: batch, Grams: grams})
	w.totals.Rosin -= grams
	w.totals.Drums += grams
	return numbers(b.Left)
}

func (w *work) pay() string {
	b := &w.batches[w.batchNamed(0)]
	need(b.Grade != api.NoGrade && !b.Paid, api.ErrState)
	worth, resin := w.worth(*b), sum(b.Resin...)
	paid, kept := 0, 0
	for i, tapper := range b.Tappers {
		t := &w.tappers[tapper]
		share := worth * b.Resin[i] / resin
		loan := min(share, t.Loan)
		t.Loan -= loan
		t.Paid += share - loan
		kept += loan
		paid += share - loan
	}
	fund := worth - paid - kept
	b.Paid = true
	w.totals.Paid += paid
	w.totals.Kept += kept
	w.totals.Fund += fund
	return numbers(paid, kept, fund)
}

// worth returns what all rosin of a batch is worth.
func (t terms) worth(b api.ForestBatch) int {
	if b.Grade >= len(t.grades) {
		return 0
	}
	return b.Rosin * t.grades[b.Grade].Price / priced
}

// batchNamed returns the batch with a name of the line.
func (w *work) batchNamed(name int) int { return known(w.batch(w.names[name])) }

func sum(list ...int) int {
	all := 0
	for _, n := range list {
		all += n
	}
	return all
}
