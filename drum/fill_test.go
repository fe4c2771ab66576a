package drum_test

import (
	"math"
	"slices"
	"testing"

	"pinaster/api"
	"pinaster/drum"
)

// expectFill checks a filling, of starts and stands in turn.
func expectFill(t *testing.T, l []api.DrumLayer, size, pure, rest int, want ...int) {
	t.Helper()
	var fills []api.DrumFill
	for i := 0; i < len(want); i += 2 {
		fills = append(fills, api.DrumFill{Start: want[i], Stand: want[i+1]})
	}
	expectFills(t, l, size, pure, rest, fills)
}

func expectFills(t *testing.T, l []api.DrumLayer, size, pure, rest int, want []api.DrumFill) {
	t.Helper()
	if got, e := drum.Fill(l, size, pure, rest); !slices.Equal(got, want) || e != api.OK {
		t.Errorf("%v in drums of %d by %d with a rest of %d: %v, %d, want %v", l, size, pure, rest, got, e, want)
	}
}

// P10.5

func TestExamplesOfFill(t *testing.T) {
	l := exampleLayers()
	expectFill(t, l, 100, 900, 60, 0, 0, 100, 0, 240, 1)
	expectFill(t, l, 100, 900, 90, 0, 0, 100, 0, 240, 1, 390, 0)
}

func TestFill(t *testing.T) {
	l := exampleLayers()
	expectFill(t, l, 100, 900, 39, 0, 0, 100, 0)
	expectFill(t, l, 100, 900, 40, 0, 0, 100, 0, 240, 1)
	expectFill(t, l, 100, 900, 89, 0, 0, 100, 0, 240, 1)
	expectFill(t, l, 100, 900, 0, 0, 0, 100, 0)
	expectFill(t, l, 100, 1000, math.MaxInt, 0, 0, 100, 0, 250, 1, 400, 0)
	expectFill(t, l, 100, 1000, 99, 0, 0, 100, 0, 250, 1)
	expectFill(t, l, 100, 1000, 100, 0, 0, 100, 0, 250, 1, 400, 0)
	expectFill(t, l, 500, 700, 0, 0, 0)
	expectFill(t, l, 500, 701, 0)
	expectFill(t, l, 501, 0, 0)
	expectFill(t, l, 10000, 0, 0)
	expectFill(t, layers(7, 10000), 10000, 1000, 0, 0, 7)
	expectFill(t, layers(7, 9999), 10000, 0, 0)
	expectFill(t, layers(7, 5000, 7, 5000), 10000, 1000, 0, 0, 7)
	expectFill(t, layers(4, 1), 1, 1000, 0, 0, 4)
	expectFill(t, layers(4, 3), 1, 1000, 0, 0, 4, 1, 4, 2, 4)
}

func TestTheLeastStandCounts(t *testing.T) {
	expectFill(t, layers(5, 5, 3, 5), 10, 500, 0, 0, 3)
	expectFill(t, layers(5, 6, 3, 4), 10, 400, 0, 0, 3)
	expectFill(t, layers(5, 6, 3, 4), 10, 401, 0, 0, 5)
	expectFill(t, layers(5, 6, 3, 4), 10, 601, 0)
	expectFill(t, layers(6, 2, 2, 2, 4, 2), 3, 1, 9, 0, 2, 3, 2)
	// of each stand, also one of which there is nothing, are at least 0 thousandths
	expectFill(t, layers(6, 4), 2, 0, 0, 0, 0, 2, 0)
	expectFill(t, layers(6, 4), 2, 1, 0, 0, 6, 2, 6)
}

func TestRestInFrontOfTheFirstDrum(t *testing.T) {
	l := layers(1, 2, 2, 2, 1, 1, 2, 9)
	expectFill(t, l, 4, 1000, 4)
	expectFill(t, l, 4, 1000, 5, 5, 2, 9, 2)
	expectFill(t, l, 4, 750, 1)
	expectFill(t, l, 4, 750, 2, 2, 2, 6, 2, 10, 2)
	expectFill(t, l, 3, 660, 0, 0, 1, 3, 2, 6, 2, 9, 2)
	expectFill(t, l, 3, 667, 0)
	expectFill(t, l, 2, 1000, 0, 0, 1, 2, 2)
	expectFill(t, l, 2, 1000, 1, 0, 1, 2, 2, 5, 2, 7, 2, 9, 2, 11, 2)
}

func TestThousandthsOfADrum(t *testing.T) {
	expectFill(t, layers(1, 1, 6, 1, 7, 1), 3, 333, 0, 0, 1)
	expectFill(t, layers(1, 1, 6, 1, 7, 1), 3, 334, 0)
	expectFill(t, layers(1, 2, 7, 1), 3, 666, 0, 0, 1)
	expectFill(t, layers(1, 2, 7, 1), 3, 667, 0)
	expectFill(t, layers(1, 3), 3, 1000, 0, 0, 1)
	expectFill(t, layers(1, 9999, 2, 1), 10000, 999, 0, 0, 1)
	expectFill(t, layers(1, 9999, 2, 1), 10000, 1000, 0)
}

func TestThrownFillings(t *testing.T) {
	d := &dice{8}
	most := 0
	for range 1200 {
		l := d.layers(6, d.from(1, 4), 3)
		size, pure := d.from(1, 5), []int{0, 1, 500, 600, 666, 667, 800, 1000, d.upTo(1000)}[d.upTo(8)]
		all := allFillings(l, size, pure)
		for _, rest := range []int{0, 1, 2, 3, d.upTo(9), math.MaxInt} {
			want := firstFilling(all, size, rest)
			most = max(most, len(want))
			expectFills(t, l, size, pure, rest, want)
		}
	}
	if most < 8 {
		t.Errorf("at most %d drums", most)
	}
}

// P10.11

func TestMoreRestOrFewerThousandths(t *testing.T) {
	d := &dice{9}
	many := func(l []api.DrumLayer, size, pure, rest int) int {
		fills, e := drum.Fill(l, size, pure, rest)
		end, grams := 0, gramsOf(l)
		for _, x := range fills {
			if x.Start < end || x.Start+size > len(grams) {
				t.Fatalf("%v in drums of %d by %d: %v", l, size, pure, fills)
			}
			end = x.Start + size
			if stand, is := standOf(grams[x.Start:end], pure); !is || stand != x.Stand {
				t.Fatalf("%v in drums of %d by %d: %v", l, size, pure, fills)
			}
		}
		if restOf(fills, size) > rest || e != api.OK {
			t.Fatalf("%v in drums of %d by %d with a rest of %d: %v, %d", l, size, pure, rest, fills, e)
		}
		return len(fills)
	}
	for range 300 {
		l := d.layers(16, d.from(1, 8), 60)
		size, pure, rest := d.from(1, 80), d.upTo(1000), d.upTo(200)
		n := many(l, size, pure, rest)
		if more := many(l, size, pure, rest+d.upTo(100)); more < n {
			t.Fatalf("%v in drums of %d by %d with a rest of %d: %d, with more %d", l, size, pure, rest, n, more)
		}
		if more := many(l, size, d.upTo(pure), rest); more < n {
			t.Fatalf("%v in drums of %d by %d with a rest of %d: %d, with fewer thousandths %d", l, size, pure, rest, n, more)
		}
	}
}
