package drum_test

import (
	"slices"
	"testing"

	"pinaster/api"
	"pinaster/drum"
)

func expectLayers(t *testing.T, l api.DrumLog, vessel int, want ...int) {
	t.Helper()
	if got, e := drum.Layers(l, vessel); !slices.Equal(got, layers(want...)) || e != api.OK {
		t.Errorf("layers of %d in %v: %v, %d, want %v", vessel, l, got, e, want)
	}
}

func expectTrace(t *testing.T, l api.DrumLog, vessel int, want ...int) {
	t.Helper()
	if got, e := drum.Trace(l, vessel); !slices.Equal(got, layers(want...)) || e != api.OK {
		t.Errorf("trace of %d in %v: %v, %d, want %v", vessel, l, got, e, want)
	}
}

func expectRecall(t *testing.T, l api.DrumLog, stand int, want ...int) {
	t.Helper()
	if got, e := drum.Recall(l, stand); !slices.Equal(got, shares(want...)) || e != api.OK {
		t.Errorf("recall of %d in %v: %v, %d, want %v", stand, l, got, e, want)
	}
}

func expectSums(t *testing.T, l api.DrumLog, taken, tanks, drums, sinks int) {
	t.Helper()
	want := api.DrumSums{Taken: taken, Tanks: tanks, Drums: drums, Sinks: sinks}
	if got, e := drum.Sums(l); got != want || e != api.OK {
		t.Errorf("sums of %v: %v, %d, want %v", l, got, e, want)
	}
}

func expectLabel(t *testing.T, l api.DrumLog, vessel, pure int, want ...int) {
	t.Helper()
	if got, e := drum.Label(l, vessel, pure); !slices.Equal(got, want) || e != api.OK {
		t.Errorf("label of %d by %d in %v: %v, %d, want %v", vessel, pure, l, got, e, want)
	}
}

// P10.2

func TestExamplesOfVessels(t *testing.T) {
	l := example()
	expectLayers(t, l, 2, 0, 50)
	expectLayers(t, l, 3, 0, 250, 1, 50)
	expectLayers(t, l, 4, 1, 150, 0, 50)
	expectLayers(t, l, 5, 0, 50)
	expectTrace(t, l, 4, 0, 50, 1, 150)
	expectTrace(t, l, 3, 0, 250, 1, 50)
	expectRecall(t, l, 0, 2, 50, 3, 250, 4, 50, 5, 50)
	expectRecall(t, l, 1, 3, 50, 4, 150)
	expectSums(t, l, 600, 50, 500, 50)
}

func TestLayersOfOneStandAreOne(t *testing.T) {
	expectLayers(t, logOf("st", pour(0, 1, 5), pour(0, 1, 7)), 1, 0, 12)
	expectLayers(t, logOf("sst", pour(0, 2, 5), pour(1, 2, 1), pour(0, 2, 7)), 2, 0, 5, 1, 1, 0, 7)
	// what was between two layers of a stand is gone
	expectLayers(t, logOf("sstkd", pour(0, 4, 5), pour(1, 2, 1), pour(0, 2, 7), pour(2, 3, 1), pour(2, 4, 3)), 4, 0, 8)
	// the layer that is taken begins with the stand that the other one ends with
	expectLayers(t, logOf("sstd", pour(1, 3, 2), pour(0, 3, 2), pour(0, 2, 3), pour(1, 2, 3), pour(2, 3, 6)), 3, 1, 2, 0, 5, 1, 3)
	expectLayers(t, logOf("sstt", pour(0, 2, 4), pour(2, 3, 2), pour(2, 3, 2)), 3, 0, 4)
}

func TestWhatIsTakenOverwritesNothing(t *testing.T) {
	// the front of t ends within a layer, and what is left of it is poured behind it, and back
	l := logOf("sssttd", pour(0, 3, 2), pour(1, 3, 6), pour(2, 3, 2), pour(3, 4, 4), pour(2, 4, 1))
	expectLayers(t, l, 3, 1, 4, 2, 2)
	expectLayers(t, l, 4, 0, 2, 1, 2, 2, 1)
	l.Pours = append(l.Pours, pour(4, 3, 3), pour(3, 5, 5))
	expectLayers(t, l, 3, 2, 1, 0, 2, 1, 1)
	expectLayers(t, l, 4, 1, 1, 2, 1)
	expectLayers(t, l, 5, 1, 4, 2, 1)
}

func TestEmptyVessels(t *testing.T) {
	for _, l := range []api.DrumLog{logOf("stdk"), logOf("stdk", pour(0, 1, 5), pour(1, 2, 5), pour(2, 1, 5), pour(1, 3, 5))} {
		for vessel := 1; vessel < 3; vessel++ {
			expectLayers(t, l, vessel)
			expectTrace(t, l, vessel)
			for _, pure := range []int{0, 1, 1000} {
				expectLabel(t, l, vessel, pure)
			}
		}
	}
	expectRecall(t, logOf("stdk"), 0)
	expectSums(t, logOf("stdk"), 0, 0, 0, 0)
	expectSums(t, logOf("tk"), 0, 0, 0, 0)
}

func TestStandsNeedNotComeFirst(t *testing.T) {
	l := logOf("dtsks", pour(4, 1, 7), pour(2, 1, 3), pour(1, 0, 9), pour(1, 3, 1))
	expectLayers(t, l, 0, 4, 7, 2, 2)
	expectTrace(t, l, 0, 2, 2, 4, 7)
	expectRecall(t, l, 2, 0, 2, 3, 1)
	expectRecall(t, l, 4, 0, 7)
	expectSums(t, l, 10, 0, 9, 1)
	expectLabel(t, l, 0, 200, 2, 4)
	expectLabel(t, l, 0, 223, 4)
}

func TestThrownVessels(t *testing.T) {
	d := &dice{2}
	for range 1500 {
		l := d.log(12)
		in, _ := contents(l)
		for i, grams := range in {
			if l.Vessels[i].Kind == api.DrumStand {
				continue
			}
			if got, e := drum.Layers(l, i); !slices.Equal(got, layersOf(grams)) || e != api.OK {
				t.Fatalf("layers of %d in %v: %v, %d", i, l, got, e)
			}
			if got, e := drum.Trace(l, i); !slices.Equal(got, layersOf(sorted(grams))) || e != api.OK {
				t.Fatalf("trace of %d in %v: %v, %d", i, l, got, e)
			}
		}
		for _, s := range ofKind(l, api.DrumStand) {
			var want []api.DrumShare
			for i, grams := range in {
				if n := count(grams, s); n > 0 {
					want = append(want, api.DrumShare{Vessel: i, Grams: n})
				}
			}
			if got, e := drum.Recall(l, s); !slices.Equal(got, want) || e != api.OK {
				t.Fatalf("recall of %d in %v: %v, %d", s, l, got, e)
			}
		}
	}
}

func sorted(list []int) []int {
	list = slices.Clone(list)
	slices.Sort(list)
	return list
}

// P10.3

func TestLabels(t *testing.T) {
	l := example()
	for _, x := range []struct {
		vessel, pure int
		want         []int
	}{
		{3, 800, []int{0}}, {3, 833, []int{0}}, {3, 834, nil}, {3, 1000, nil}, {3, 167, []int{0}}, {3, 166, []int{0, 1}}, {3, 0, []int{0, 1}},
		{4, 250, []int{0, 1}}, {4, 251, []int{1}}, {4, 750, []int{1}}, {4, 751, nil},
		{5, 0, []int{0}}, {5, 1000, []int{0}}, {2, 1000, []int{0}}, // none of 1 are in them
	} {
		expectLabel(t, l, x.vessel, x.pure, x.want...)
	}
}

func TestThrownLabels(t *testing.T) {
	d := &dice{3}
	for range 1500 {
		l := d.log(12)
		in, _ := contents(l)
		i := d.upTo(len(in) - 1)
		if l.Vessels[i].Kind == api.DrumStand {
			continue
		}
		for _, pure := range []int{0, 1, 250, 333, 334, 500, 999, 1000, d.upTo(1000)} {
			var want []int
			for s := range in {
				if n := count(in[i], s); n > 0 && 1000*n >= pure*len(in[i]) {
					want = append(want, s)
				}
			}
			expectLabel(t, l, i, pure, want...)
		}
	}
}

// P10.8

func TestResinIsConserved(t *testing.T) {
	d := &dice{4}
	for range 1500 {
		l := d.log(d.from(1, 1000000))
		sums, e := drum.Sums(l)
		if sums.Taken != sums.Tanks+sums.Drums+sums.Sinks || e != api.OK {
			t.Fatalf("sums of %v: %v, %d", l, sums, e)
		}
		taken, in := map[int]int{}, map[int]int{}
		for _, p := range l.Pours {
			taken[p.From] += p.Grams
		}
		for _, s := range ofKind(l, api.DrumStand) {
			shares, _ := drum.Recall(l, s)
			all := 0
			for _, x := range shares {
				all += x.Grams
				in[l.Vessels[x.Vessel].Kind] += x.Grams
			}
			if all != taken[s] {
				t.Fatalf("recall of %d in %v: %v", s, l, shares)
			}
			sums.Taken -= taken[s]
		}
		if (sums != api.DrumSums{Tanks: in[api.DrumTank], Drums: in[api.DrumDrum], Sinks: in[api.DrumSink]}) {
			t.Fatalf("sums of %v, without what was taken of each stand: %v", l, sums)
		}
	}
}

// P10.9

func TestWhatWentInGoesOut(t *testing.T) {
	d := &dice{5}
	for range 300 {
		l := d.log(12)
		went, came := make([][]int, len(l.Vessels)), make([][]int, len(l.Vessels))
		for i, p := range l.Pours { // what a pour takes is what was in front before it
			front := slices.Repeat([]int{p.From}, p.Grams)
			if l.Vessels[p.From].Kind != api.DrumStand {
				before := api.DrumLog{Vessels: l.Vessels, Pours: l.Pours[:i]}
				in, e := drum.Layers(before, p.From)
				if e != api.OK {
					t.Fatalf("%v: %d", before, e)
				}
				front = gramsOf(in)[:p.Grams]
			}
			went[p.From] = append(went[p.From], front...)
			came[p.To] = append(came[p.To], front...)
		}
		for i, v := range l.Vessels {
			if v.Kind == api.DrumStand {
				continue
			}
			in, e := drum.Layers(l, i)
			if all := append(went[i], gramsOf(in)...); !slices.Equal(came[i], all) || e != api.OK {
				t.Fatalf("%d in %v: %v came, %v went, and %v is in it, %d", i, l, came[i], went[i], in, e)
			}
		}
	}
}
