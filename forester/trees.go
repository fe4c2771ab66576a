package forester

import (
	"pinaster/api"
	"pinaster/rights"
	"pinaster/stand"
)

// mostLoan is the most that a tapper may owe, in cents.
const mostLoan = 1 << 30

func (w *work) setDay() string {
	day := w.numbers[0]
	need(isFrom(day, w.today, api.MaxDay), api.ErrRange)
	w.today = day
	return ""
}

func (w *work) plant() string {
	tag := w.names[0]
	tree := w.tree(tag)
	if tree < 0 {
		tree = len(w.trees)
		w.needNew(tag, tree, api.ForestTrees)
		w.trees = append(w.trees, api.ForestTree{Tag: tag, Tapper: api.NoTapper})
	}
	return w.act(tree, api.TreePlant)
}

func (w *work) open() string {
	tree := w.treeNamed(0)
	need(w.isRight(), api.ErrBarred)
	return w.act(tree, api.TreeOpen)
}

func (w *work) rest() string { return w.act(w.treeNamed(0), api.TreeRest) }

func (w *work) die() string { return w.act(w.treeNamed(0), api.TreeDie) }

func (w *work) fell() string { return w.act(w.treeNamed(0), api.TreeFell) }

// act adds an act of a tree to the history, whose tags are those of the trees, in the same order.
func (w *work) act(tree, what int) string {
	t := &w.trees[tree]
	w.acts = with(w.acts, api.TreeAct{Day: w.today, Tag: t.Tag, What: what})
	_, states, _, e := stand.Follow(w.acts)
	need(e == api.OK, api.ErrState)
	t.State = states[tree]
	if t.State == api.TreeNone {
		t.Tapper, t.Pot = api.NoTapper, 0
	}
	return numbers(t.State)
}

func (w *work) addTapper() string {
	name := w.names[0]
	w.needNew(name, len(w.tappers), api.ForestTappers)
	w.tappers = append(w.tappers, api.Tapper{Name: name})
	return ""
}

func (w *work) give() string {
	t, tapper := &w.trees[w.treeNamed(0)], w.tapperNamed(1)
	need(t.State != api.TreeNone && t.Pot == 0, api.ErrState)
	t.Tapper = tapper
	return ""
}

func (w *work) hang() string {
	t, size := &w.trees[w.treeNamed(0)], w.numbers[0]
	need(t.State == api.TreeTapped && t.Tapper != api.NoTapper && t.Pot == 0, api.ErrState)
	need(isFrom(size, 1, api.ForestGrams), api.ErrRange)
	tapper := &w.tappers[t.Tapper]
	need(tapper.Loan+w.advance <= mostLoan, api.ErrFull)
	t.Pot = size
	tapper.Loan += w.advance
	w.totals.Lent += w.advance
	return ""
}

// empty takes the tree as one of the cask even if it gives water alone.
func (w *work) empty() string {
	tree, resin, water := w.treeNamed(0), w.numbers[0], w.numbers[1]
	need(w.isRight(), api.ErrBarred)
	t := w.trees[tree]
	need(t.Pot > 0, api.ErrState)
	need(resin+water <= t.Pot, api.ErrHeavy)
	tapper := &w.tappers[t.Tapper]
	tapper.Resin += resin
	tapper.Water += water
	tapper.Trees = withOnce(tapper.Trees, tree)
	w.totals.Resin += resin
	w.totals.Water += water
	return ""
}

// isRight reports whether there is a right on the day.
func (w *work) isRight() bool {
	for right := range w.taps {
		held, e := rights.Held(w.taps, right, w.today/api.RightsYear, w.today%api.RightsYear)
		if e == api.OK && held {
			return true
		}
	}
	return false
}

// treeNamed returns the tree with a name of the line.
func (w *work) treeNamed(name int) int { return known(w.tree(w.names[name])) }

// tapperNamed returns the tapper with a name of the line.
func (w *work) tapperNamed(name int) int { return known(w.tapper(w.names[name])) }
