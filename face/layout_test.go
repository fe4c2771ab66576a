package face_test

import (
	"math"
	"slices"
	"testing"

	"pinaster/api"
	"pinaster/face"
)

// nobody, scar and the numbers of faces tell what a part belongs to.
const (
	nobody = -1
	scar   = -2
)

// around returns what each part belongs to: to a scar, or to nobody.
func around(t api.FaceTree) []int {
	parts := slices.Repeat([]int{nobody}, t.Girth)
	for _, s := range t.Scars {
		for i := range s.Width {
			parts[(s.From+i)%t.Girth] = scar
		}
	}
	return parts
}

// isAllowed tells in its own way whether a start is allowed.
func isAllowed(t api.FaceTree, start int) bool {
	parts := around(t)
	for i := range t.Width {
		if parts[(start+i)%t.Girth] == scar {
			return false
		}
	}
	return true
}

// doesFit tells in its own way whether a layout fits: each face, and the bar behind it, take parts that nothing else takes.
func doesFit(t api.FaceTree, layout []int) bool {
	if len(layout)*t.Width*1000 > t.Girth*t.Share {
		return false
	}
	taken := make([]int, t.Girth)
	for _, start := range layout {
		if !isAllowed(t, start) {
			return false
		}
		for i := range t.Width + t.Bar {
			part := (start + i) % t.Girth
			if taken[part]++; taken[part] > 1 {
				return false
			}
		}
	}
	return true
}

// P2.2

func TestAllowed(t *testing.T) {
	var want []int
	for start := range 60 {
		if start <= 10 || start >= 25 {
			want = append(want, start)
		}
	}
	if l, e := face.Allowed(tree()); !slices.Equal(l, want) || e != api.OK {
		t.Errorf("%v, %d", l, e)
	}
	for i, x := range []struct {
		t    api.FaceTree
		want []int
	}{
		{api.FaceTree{Girth: 5, Width: 2}, []int{0, 1, 2, 3, 4}},
		{api.FaceTree{Girth: 5, Width: 5}, []int{0, 1, 2, 3, 4}},
		{api.FaceTree{Girth: 1, Width: 1}, []int{0}},
		{api.FaceTree{Girth: 5, Width: 5, Scars: []api.FaceArc{{From: 2, Width: 1}}}, nil},
		{api.FaceTree{Girth: 5, Width: 1, Scars: []api.FaceArc{{From: 2, Width: 5}}}, nil},
		{api.FaceTree{Girth: 5, Width: 1, Scars: []api.FaceArc{{From: 2, Width: 4}}}, []int{1}},
		{api.FaceTree{Girth: 5, Width: 2, Scars: []api.FaceArc{{From: 4, Width: 1}}}, []int{0, 1, 2}},
		{api.FaceTree{Girth: 5, Width: 2, Scars: []api.FaceArc{{From: 0, Width: 1}}}, []int{1, 2, 3}},
		{api.FaceTree{Girth: 9, Width: 2, Scars: []api.FaceArc{{From: 7, Width: 4}}}, []int{2, 3, 4, 5}},
		{api.FaceTree{Girth: 9, Width: 2, Scars: []api.FaceArc{{From: 2, Width: 2}, {From: 3, Width: 2}, {From: 3, Width: 1}}}, []int{0, 5, 6, 7, 8}},
		{api.FaceTree{Girth: 9, Width: 3, Bar: 9, Share: 0}, []int{0, 1, 2, 3, 4, 5, 6, 7, 8}}, // neither bar nor share count
	} {
		if l, e := face.Allowed(x.t); !slices.Equal(l, x.want) || e != api.OK {
			t.Errorf("%d: %v, %d", i, l, e)
		}
	}
}

func TestAllowedPartByPart(t *testing.T) {
	d := &dice{1}
	for range 200 {
		x := d.tree(d.from(1, 80))
		var want []int
		for start := range x.Girth {
			if isAllowed(x, start) {
				want = append(want, start)
			}
		}
		if l, e := face.Allowed(x); !slices.Equal(l, want) || e != api.OK {
			t.Fatalf("%v: %v, %d, want %v", x, l, e, want)
		}
	}
}

func TestFits(t *testing.T) {
	full := api.FaceTree{Girth: 60, Width: 10, Bar: 0, Share: 1000}
	one := api.FaceTree{Girth: 20, Width: 12, Bar: 8, Share: 1000}
	wide := api.FaceTree{Girth: 20, Width: 12, Bar: 9, Share: 1000}
	for i, x := range []struct {
		t      api.FaceTree
		layout []int
		is     bool
	}{
		{tree(), []int{1, 25, 43}, true}, {tree(), []int{0, 25, 43}, false}, {tree(), []int{1, 20}, false},
		{tree(), []int{2, 25, 43}, true}, {tree(), []int{1, 25, 42}, false}, {tree(), []int{2, 25, 44}, true},
		{tree(), []int{1, 26, 43}, false}, {tree(), []int{2, 26, 44}, true}, {tree(), []int{3, 26, 45}, true},
		{tree(), nil, true}, {tree(), []int{}, true}, {tree(), []int{10}, true}, {tree(), []int{11}, false},
		{tree(), []int{24}, false}, {tree(), []int{59}, true}, {tree(), []int{0, 59}, false}, {tree(), []int{0, 42}, true},
		{full, []int{0, 10, 20, 30, 40, 50}, true}, {full, []int{9, 19, 29, 39, 49, 59}, true}, {full, []int{0, 10, 20, 30, 40, 51}, false},
		{full, []int{1, 10, 20, 30, 40, 51}, false}, {full, []int{0, 10, 20, 30, 40}, true},
		{one, []int{0}, true}, {one, []int{19}, true}, {wide, []int{0}, false}, {wide, nil, true},
	} {
		if is, e := face.Fits(x.t, x.layout); is != x.is || e != api.OK {
			t.Errorf("%d: %v, %d", i, is, e)
		}
	}
}

func TestFitsByShare(t *testing.T) {
	for _, x := range []struct {
		faces, share int
		is           bool
	}{
		{0, 0, true}, {1, 0, false}, {1, 166, false}, {1, 167, true}, {2, 333, false}, {2, 334, true},
		{3, 499, false}, {3, 500, true}, {3, 1000, true}, {4, 666, false}, {4, 667, true}, {5, 834, true}, {6, 999, false}, {6, 1000, true},
	} {
		tree := api.FaceTree{Girth: 60, Width: 10, Share: x.share}
		layout := []int{0, 10, 20, 30, 40, 50}[:x.faces]
		if is, e := face.Fits(tree, layout); is != x.is || e != api.OK {
			t.Errorf("%d faces with the share %d: %v, %d", x.faces, x.share, is, e)
		}
	}
}

func wrongLayouts() [][]int {
	wrong := [][]int{{60}, {1, 60}, {25, 1}, {1, 1}, {1, 25, 25}, {1, 43, 25}, {-1}, {-1, 25}, make([]int, 5000)}
	for _, n := range odd {
		wrong = append(wrong, []int{n}, []int{n, 25}, []int{1, n})
	}
	return wrong
}

func TestWrongLayouts(t *testing.T) {
	for _, layout := range wrongLayouts() {
		if is, e := face.Fits(tree(), layout); is || e != api.ErrFaceLayout {
			t.Errorf("Fits of %v: %v, %d", layout, is, e)
		}
		heights := make([]int, len(layout))
		for _, h := range append(slices.Clone(odd), 0, 201) {
			if live, gap, e := face.Live(tree(), layout, heights, h); live != 0 || gap != 0 || e != api.ErrFaceLayout {
				t.Errorf("Live of %v at %d: %d, %d, %d", layout, h, live, gap, e)
			}
		}
	}
}

func TestFitsPartByPart(t *testing.T) {
	d := &dice{2}
	fit := 0
	for range 3000 {
		x := d.tree(d.from(1, 40))
		layout := d.layout(x.Girth, d.upTo(4))
		is, e := face.Fits(x, layout)
		if is != doesFit(x, layout) || e != api.OK {
			t.Fatalf("%v with %v: %v, %d", x, layout, is, e)
		}
		if is && len(layout) > 1 {
			fit++
		}
	}
	if fit < 100 {
		t.Errorf("only %d layouts with several faces fit", fit)
	}
}

// P2.3, P2.9

func TestMost(t *testing.T) {
	plain := func(girth, width, bar, share int, scars ...api.FaceArc) api.FaceTree {
		return api.FaceTree{Girth: girth, Width: width, Bar: bar, Share: share, Scars: scars}
	}
	for i, x := range []struct {
		t    api.FaceTree
		want []int
	}{
		{tree(), []int{1, 25, 43}},
		{plain(60, 10, 0, 1000), []int{0, 10, 20, 30, 40, 50}},
		{plain(60, 10, 0, 999), []int{0, 10, 20, 30, 40}},
		{plain(60, 10, 0, 166), nil}, {plain(60, 10, 0, 167), []int{0}}, {plain(60, 10, 0, 0), nil},
		{plain(60, 10, 50, 1000), []int{0}}, {plain(60, 10, 51, 1000), nil}, {plain(60, 10, 20, 1000), []int{0, 30}}, {plain(60, 10, 21, 1000), []int{0}},
		{plain(1, 1, 0, 1000), []int{0}}, {plain(1, 1, 1, 1000), nil}, {plain(1, 1, 0, 999), nil},
		{plain(7, 7, 0, 1000), []int{0}}, {plain(7, 7, 0, 1000, api.FaceArc{From: 3, Width: 1}), nil},
		{plain(9, 2, 1, 1000, api.FaceArc{From: 0, Width: 9}), nil},
		// the first start is not the least one that is allowed
		{plain(9, 3, 0, 1000, api.FaceArc{From: 8, Width: 1}), []int{0, 3}},
		{plain(9, 2, 1, 1000, api.FaceArc{From: 2, Width: 1}), []int{0, 3, 6}},
		{plain(9, 2, 1, 1000, api.FaceArc{From: 3, Width: 1}), []int{1, 4, 7}},
		{plain(9, 2, 1, 1000, api.FaceArc{From: 4, Width: 1}), []int{2, 5, 8}},
		{plain(9, 2, 1, 1000, api.FaceArc{From: 4, Width: 2}), []int{0, 6}},
	} {
		if l, e := face.Most(x.t); !slices.Equal(l, x.want) || e != api.OK {
			t.Errorf("%d: %v, %d, want %v", i, l, e, x.want)
		}
	}
}

// mostOf tries all layouts.
func mostOf(t api.FaceTree) []int {
	var best []int
	for bits := range 1 << t.Girth {
		var layout []int
		for start := range t.Girth {
			if bits>>start&1 == 1 {
				layout = append(layout, start)
			}
		}
		better := len(layout) > len(best) || len(layout) == len(best) && slices.Compare(layout, best) < 0
		if better && doesFit(t, layout) {
			best = layout
		}
	}
	return best
}

func TestMostAgainstAllLayouts(t *testing.T) {
	d := &dice{3}
	for range 250 {
		x := d.tree(d.from(1, 13))
		want := mostOf(x)
		if l, e := face.Most(x); !slices.Equal(l, want) || e != api.OK {
			t.Fatalf("%v: %v, %d, want %v", x, l, e, want)
		}
	}
}

func TestMostOfLessIsMore(t *testing.T) {
	d := &dice{4}
	for range 300 {
		x := d.tree(d.from(1, 300))
		l, e := face.Most(x)
		if e != api.OK || !doesFit(x, l) {
			t.Fatalf("%v: %v, %d", x, l, e)
		}
		for range 5 {
			if layout := d.layout(x.Girth, d.upTo(8)); len(layout) > len(l) && doesFit(x, layout) {
				t.Fatalf("%v: %v, but %v fits", x, l, layout)
			}
		}
		fewer, lesser, greater := x, x, x
		if len(x.Scars) > 0 {
			fewer.Scars = x.Scars[1:]
		}
		lesser.Bar = d.upTo(x.Bar)
		greater.Share = d.from(x.Share, 1000)
		for _, y := range []api.FaceTree{fewer, lesser, greater} {
			if m, e := face.Most(y); len(m) < len(l) || e != api.OK {
				t.Fatalf("%v: %v, and then %v: %v, %d", x, l, y, m, e)
			}
		}
	}
}

// P2.4, P2.8

func TestLive(t *testing.T) {
	full := api.FaceTree{Girth: 60, Width: 10, Share: 1000}
	all := []int{0, 10, 20, 30, 40, 50}
	low := []int{30, 10, 0}
	for i, x := range []struct {
		t               api.FaceTree
		layout, heights []int
		h, live, gap    int
	}{
		{tree(), []int{1, 25, 43}, low, 5, 40, 14}, {tree(), []int{1, 25, 43}, low, 20, 50, 50}, {tree(), []int{1, 25, 43}, low, 30, 60, 60},
		{tree(), []int{1, 25, 43}, low, 0, 40, 14}, {tree(), []int{1, 25, 43}, low, 9, 40, 14}, {tree(), []int{1, 25, 43}, low, 10, 50, 50},
		{tree(), []int{1, 25, 43}, low, 29, 50, 50}, {tree(), []int{1, 25, 43}, low, 200, 60, 60},
		{tree(), []int{1, 25, 43}, []int{1, 1, 1}, 0, 30, 8}, {tree(), []int{1, 25, 43}, []int{0, 1, 1}, 0, 40, 8}, {tree(), []int{1, 25, 43}, []int{1, 0, 1}, 0, 40, 8},
		{tree(), []int{1, 25, 43}, []int{0, 0, 0}, 0, 60, 60}, {tree(), []int{1, 25, 43}, []int{200, 200, 200}, 199, 30, 8}, {tree(), []int{1, 25, 43}, []int{200, 200, 200}, 200, 60, 60},
		{full, all, []int{9, 9, 0, 9, 9, 9}, 8, 10, 0}, {full, all, []int{9, 0, 0, 9, 0, 9}, 8, 30, 0}, {full, all, []int{9, 0, 9, 0, 9, 0}, 8, 30, 10},
		{full, all, []int{9, 0, 0, 9, 0, 0}, 8, 40, 20}, {full, all, []int{0, 9, 0, 0, 0, 9}, 8, 40, 10}, {full, all, []int{0, 0, 0, 0, 0, 9}, 8, 50, 50},
		{tree(), nil, nil, 0, 60, 60}, {tree(), []int{59}, []int{3}, 2, 50, 50},
		{api.FaceTree{Girth: 7, Width: 7, Share: 1000}, []int{4}, []int{1}, 0, 0, 0},
	} {
		if live, gap, e := face.Live(x.t, x.layout, x.heights, x.h); live != x.live || gap != x.gap || e != api.OK {
			t.Errorf("%d: %d, %d, %d", i, live, gap, e)
		}
	}
}

func TestLiveErrors(t *testing.T) {
	good := []int{1, 25, 43}
	for i, x := range []struct {
		layout, heights []int
		h               int
		e               api.Errno
	}{
		{[]int{0, 25, 43}, []int{1, 1, 1}, 0, api.ErrFaceLayout}, {[]int{1, 20}, []int{1, 1}, 0, api.ErrFaceLayout},
		{[]int{11}, []int{1}, 0, api.ErrFaceLayout}, {[]int{0, 25, 43}, []int{1, 1, 1}, 201, api.ErrFaceLayout},
		{good, nil, 0, api.ErrFaceLayout}, {good, []int{1, 1}, 0, api.ErrFaceLayout}, {good, []int{1, 1, 1, 1}, 0, api.ErrFaceLayout}, {nil, []int{1}, 0, api.ErrFaceLayout},
		{good, []int{201, 1, 1}, 0, api.ErrFaceLayout}, {good, []int{1, 201, 1}, 0, api.ErrFaceLayout}, {good, []int{1, 1, 201}, -1, api.ErrFaceLayout},
		{good, []int{-1, 1, 1}, 0, api.ErrFaceLayout}, {good, []int{1, 1, math.MinInt}, 0, api.ErrFaceLayout}, {good, []int{1, math.MaxInt, 1}, 201, api.ErrFaceLayout},
		{good, []int{1, 1, 1}, 201, api.ErrRange}, {good, []int{1, 1, 1}, -1, api.ErrRange}, {good, []int{1, 1, 1}, math.MinInt, api.ErrRange}, {good, []int{1, 1, 1}, math.MaxInt, api.ErrRange},
		{nil, nil, 201, api.ErrRange},
	} {
		if live, gap, e := face.Live(tree(), x.layout, x.heights, x.h); live != 0 || gap != 0 || e != x.e {
			t.Errorf("%d: %d, %d, %d", i, live, gap, e)
		}
	}
}

// belongs returns to which face higher than h each part belongs, if to any.
func belongs(t api.FaceTree, layout, heights []int, h int) []int {
	parts := slices.Repeat([]int{nobody}, t.Girth)
	for i, start := range layout {
		for k := range t.Width {
			if heights[i] > h {
				parts[(start+k)%t.Girth] = i
			}
		}
	}
	return parts
}

// liveOf walks around the tree, from the end of each face to the next one.
func liveOf(parts []int) (live, gap int) {
	girth := len(parts)
	gap = girth
	for from, face := range parts {
		if face == nobody {
			live++
		}
		if face == nobody || parts[(from+1)%girth] == face {
			continue
		}
		run := 0
		for run < girth && parts[(from+1+run)%girth] == nobody {
			run++
		}
		gap = min(gap, run)
	}
	return live, gap
}

func TestLivePartByPart(t *testing.T) {
	d := &dice{5}
	for range 300 {
		x := d.tree(d.from(4, 60))
		x.Width = min(x.Width, x.Girth-1) // a face that is the whole girth has no end
		layout, e := face.Most(x)
		if e != api.OK {
			t.Fatalf("%v: %d", x, e)
		}
		if len(layout) > 1 && d.upTo(2) == 0 {
			layout = layout[1:]
		}
		var heights []int
		for range layout {
			heights = append(heights, d.upTo(5))
		}
		for h := range 7 {
			parts := belongs(x, layout, heights, h)
			wantLive, wantGap := liveOf(parts)
			live, gap, e := face.Live(x, layout, heights, h)
			if live != wantLive || gap != wantGap || e != api.OK {
				t.Fatalf("%v, %v, %v at %d: %d, %d, %d, want %d, %d", x, layout, heights, h, live, gap, e, wantLive, wantGap)
			}
			stays(t, x, parts, live, gap)
		}
	}
}

// stays checks what P2.8 says of a height: the share, no scar, and the bar.
func stays(t *testing.T, x api.FaceTree, parts []int, live, gap int) {
	if (x.Girth-live)*1000 > x.Girth*x.Share {
		t.Fatalf("%v: only %d are live", x, live)
	}
	if live < x.Girth && gap < x.Bar {
		t.Fatalf("%v: a gap of %d", x, gap)
	}
	for part, kind := range around(x) {
		if kind == scar && parts[part] != nobody {
			t.Fatalf("%v: a face takes the part %d of a scar", x, part)
		}
	}
}
