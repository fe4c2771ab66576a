package drum_test

import (
	"slices"
	"testing"

	"pinaster/api"
	"pinaster/drum"
)

func expectTests(t *testing.T, l api.DrumLog, want ...int) {
	t.Helper()
	if got, e := drum.Tests(l); !slices.Equal(got, want) || e != api.OK {
		t.Errorf("tests of %v: %v, %d, want %v", l, got, e, want)
	}
}

func expectSuspects(t *testing.T, l api.DrumLog, tested, bad []int, want ...int) {
	t.Helper()
	if got, e := drum.Suspects(l, tested, bad); !slices.Equal(got, want) || e != api.OK {
		t.Errorf("suspects of %v, of which %v are bad, in %v: %v, %d, want %v", tested, bad, l, got, e, want)
	}
}

// spread returns a log with 4 drums, from 4 on, in which there is of each of 4 stands what a set says.
func spread(sets ...int) api.DrumLog {
	l := logOf("ssssdddd")
	for stand, set := range sets {
		for drum := range 4 {
			if set>>drum&1 == 1 {
				l.Pours = append(l.Pours, pour(stand, 4+drum, 1))
			}
		}
	}
	return l
}

// P10.4

func TestExamplesOfTests(t *testing.T) {
	l := example()
	expectTests(t, l, 3)
	expectSuspects(t, l, []int{3}, []int{3}, 0, 1)
	expectSuspects(t, l, []int{3}, nil)
}

func TestTests(t *testing.T) {
	for _, x := range []struct {
		sets, want []int
	}{
		{nil, nil},
		{[]int{1}, []int{4}}, {[]int{8}, []int{7}}, {[]int{6}, []int{5}},
		{[]int{1, 1}, []int{4}}, {[]int{15, 15, 15, 15}, []int{4}},
		{[]int{1, 2}, []int{4, 5}}, {[]int{1, 3}, []int{4, 5}}, {[]int{3, 2}, []int{4, 5}}, {[]int{9, 8}, []int{4, 7}},
		{[]int{5, 6, 4}, []int{4, 5, 6}}, {[]int{5, 6}, []int{4, 5}}, {[]int{13, 14}, []int{4, 5}}, {[]int{12, 4}, []int{6, 7}},
		{[]int{1, 2, 4, 8}, []int{4, 5, 6, 7}}, {[]int{1, 2, 3}, []int{4, 5}}, {[]int{1, 2, 3, 3}, []int{4, 5}}, {[]int{9, 10, 15}, []int{4, 5}},
		{[]int{7, 11, 13, 14}, []int{4, 5, 6}}, {[]int{4, 12, 8}, []int{6, 7}}, {[]int{2, 14}, []int{5, 6}}, {[]int{1, 15, 7}, []int{4, 5, 7}},
		{[]int{6, 10, 12}, []int{5, 6}}, {[]int{0, 6, 6}, []int{5}},
	} {
		expectTests(t, spread(x.sets...), x.want...)
	}
}

func TestOnlyWhatIsThereInTheEnd(t *testing.T) {
	// all of d1 is poured back
	l := logOf("stdd", pour(0, 2, 5), pour(2, 1, 5), pour(1, 3, 5))
	expectTests(t, l, 3)
	expectSuspects(t, l, []int{2}, nil, 0)
	expectSuspects(t, l, []int{2}, []int{2})
	expectTests(t, logOf("stk", pour(0, 1, 5), pour(1, 2, 5)))
	expectTests(t, logOf("sd"))
	expectTests(t, logOf("t"))
}

func TestSuspects(t *testing.T) {
	l := spread(1, 3, 3, 0)
	for _, x := range []struct{ tested, bad, want []int }{
		{nil, nil, []int{0, 1, 2}}, {[]int{7}, nil, []int{0, 1, 2}}, {[]int{7}, []int{7}, nil},
		{[]int{4}, []int{4}, []int{0, 1, 2}}, {[]int{4}, nil, nil},
		{[]int{5}, []int{5}, []int{1, 2}}, {[]int{5}, nil, []int{0}},
		{[]int{4, 5}, []int{4}, []int{0}}, {[]int{4, 5}, []int{4, 5}, []int{1, 2}}, {[]int{4, 5}, []int{5}, nil}, {[]int{4, 5, 6}, []int{4, 5, 6}, nil},
	} {
		expectSuspects(t, l, x.tested, x.bad, x.want...)
	}
	// the stands come behind the drums
	expectSuspects(t, logOf("ddss", pour(3, 0, 1), pour(2, 0, 1), pour(2, 1, 1)), []int{1}, nil, 3)
}

func TestAllTests(t *testing.T) {
	for code := range 1 << 12 {
		l := spread(code&15, code>>4&15, code>>8)
		expectTests(t, l, firstTests(l)...)
	}
}

// common are the elements of a list that are in another one too.
func common(list, other []int) []int {
	var both []int
	for _, x := range list {
		if slices.Contains(other, x) {
			both = append(both, x)
		}
	}
	return both
}

func TestThrownTests(t *testing.T) {
	d := &dice{6}
	for range 400 {
		l := d.log(12)
		expectTests(t, l, firstTests(l)...)
		tested := d.some(ofKind(l, api.DrumDrum))
		bad := d.some(tested)
		expectSuspects(t, l, tested, bad, suspects(l, tested, bad)...)
		for _, drums := range drumsOfAll(l) { // a stand is bad that has these drums
			bad := common(tested, drums)
			expectSuspects(t, l, tested, bad, suspects(l, tested, bad)...)
		}
	}
}

// P10.10

func TestTestsTellWhichStandIsBad(t *testing.T) {
	d := &dice{7}
	for range 500 {
		l := d.log(12)
		of := drumsOfAll(l)
		tests, e := drum.Tests(l)
		if e != api.OK {
			t.Fatalf("%v: %d", l, e)
		}
		for _, drums := range of {
			bad, want := common(tests, drums), []int(nil)
			if len(bad) == 0 {
				t.Fatalf("%v: the tests %v do not tell that a stand is bad whose drums are %v", l, tests, drums)
			}
			for _, s := range ofKind(l, api.DrumStand) {
				if slices.Equal(of[s], drums) {
					want = append(want, s)
				}
			}
			expectSuspects(t, l, tests, bad, want...)
		}
		for _, fewer := range sets(ofKind(l, api.DrumDrum)) {
			if len(fewer) < len(tests) && tell(fewer, of) {
				t.Fatalf("%v: tests %v, but %v tell", l, tests, fewer)
			}
		}
	}
}
