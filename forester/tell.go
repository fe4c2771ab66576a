package forester

import "pinaster/api"

func (w *work) tellDebt() string {
	t := w.tappers[w.tapperNamed(0)]
	return numbers(t.Loan, t.Paid)
}

func (w *work) tellTree() string { return numbers(w.trees[w.treeNamed(0)].State) }

func (w *work) tellTrace() string {
	b := w.batches[w.drums[known(w.drum(w.names[0]))].Batch]
	tokens := []string{b.Name, colon}
	for _, tapper := range b.Tappers {
		tokens = append(tokens, w.tappers[tapper].Name)
	}
	tokens = append(tokens, colon)
	for _, tree := range b.Trees {
		tokens = append(tokens, w.trees[tree].Tag)
	}
	return words(tokens...)
}

func (w *work) tellTotals() string {
	t := w.totals
	return numbers(t.Resin, t.Water, t.Drain, t.Spirit, t.Fume, t.Dirt, t.Rosin, t.Drums, t.Lent, t.Paid, t.Kept, t.Fund)
}

// counted returns the totals as all that there is says them: no mass and no money is lost, or made.
// How much water was drained, and what of the resin was turpentine and what was fumes, is only written down; so is what was kept.
func (w *work) counted() api.ForestTotals {
	t := api.ForestTotals{Drain: w.totals.Drain, Spirit: w.totals.Spirit, Fume: w.totals.Fume, Kept: w.totals.Kept}
	t.Dirt = -t.Spirit - t.Fume
	t.Lent = t.Kept
	t.Fund = -t.Kept
	for _, x := range w.tappers {
		t.Resin += x.Resin
		t.Water += x.Water
		t.Lent += x.Loan
		t.Paid += x.Paid
	}
	for _, x := range w.batches {
		t.Rosin += x.Left
		t.Dirt += sum(x.Resin...) - x.Rosin
		if x.Paid {
			t.Fund += w.worth(x)
		}
	}
	for _, x := range w.drums {
		t.Drums += x.Grams
	}
	t.Fund -= t.Paid
	return t
}
