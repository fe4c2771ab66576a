package face_test

import (
	"math"
	"slices"
	"testing"

	"pinaster/api"
	"pinaster/face"
)

// P2.5

func TestPlay(t *testing.T) {
	quick := api.FaceRun{Rise: span(1, 2), Reach: 200, Every: 1, Weeks: []int{0, 2, 0, 1}}
	far := api.FaceRun{Rise: span(10, 10), Reach: 200, Every: 6, Weeks: make([]int, 14)}
	for i, x := range []struct {
		r       api.FaceRun
		stopped []bool
		rises   []int
		want    []api.FaceCut
	}{
		{run(), []bool{false, false, false, true, false}, []int{3, 3, 3, 3, 3}, []api.FaceCut{{Week: 0, Height: 3}, {Week: 2, Height: 6}}},
		{run(), []bool{false, false, true, true, false}, []int{2, 2, 2, 2, 2}, []api.FaceCut{{Week: 0, Height: 2}, {Week: 4, Height: 4}}},
		{run(), []bool{false, true, false, true, false}, []int{2, 2, 3, 2, 3}, []api.FaceCut{{Week: 0, Height: 2}, {Week: 2, Height: 5}, {Week: 4, Height: 8}}},
		// a third cut of 2 would be 8 high, but it could have been of 3
		{run(), []bool{false, true, false, true, false}, []int{3, 2, 3, 2, 2}, []api.FaceCut{{Week: 0, Height: 3}, {Week: 2, Height: 6}}},
		// the rise of a week without a cut is not counted
		{run(), []bool{false, true, true, true, false}, []int{2, 3, 3, 3, 3}, []api.FaceCut{{Week: 0, Height: 2}, {Week: 4, Height: 5}}},
		{quick, []bool{false, true, false, true}, []int{1, 2, 2, 1}, []api.FaceCut{{Week: 0, Height: 1}, {Week: 2, Height: 3}}},
		{quick, []bool{false, true, false, false}, []int{1, 2, 2, 1}, []api.FaceCut{{Week: 0, Height: 1}, {Week: 2, Height: 3}, {Week: 3, Height: 4}}},
		{far, make([]bool, 14), slices.Repeat([]int{10}, 14), []api.FaceCut{{Week: 0, Height: 10}, {Week: 6, Height: 20}, {Week: 12, Height: 30}}},
		{api.FaceRun{Rise: span(1, 1), Every: 1, Weeks: []int{0}}, []bool{false}, []int{1}, nil},
		{api.FaceRun{Rise: span(1, 1), Reach: 1, Every: 1, Weeks: []int{0, 0}}, []bool{false, false}, []int{1, 1}, []api.FaceCut{{Week: 0, Height: 1}}},
		{api.FaceRun{Rise: span(1, 2), Reach: 1, Every: 1, Weeks: []int{0}}, []bool{false}, []int{1}, nil},
		{api.FaceRun{Rise: span(1, 2), Reach: 2, Every: 1, Weeks: []int{0, 0}}, []bool{false, false}, []int{1, 1}, []api.FaceCut{{Week: 0, Height: 1}}},
		{api.FaceRun{Rise: span(1, 1), Reach: 9, Every: 1, Weeks: []int{2}}, []bool{true}, []int{1}, nil},
	} {
		if cuts, e := face.Play(x.r, x.stopped, x.rises); !slices.Equal(cuts, x.want) || e != api.OK {
			t.Errorf("%d: %v, %d, want %v", i, cuts, e, x.want)
		}
	}
}

func TestPlayWrongTruths(t *testing.T) {
	stopped, rises := []bool{false, false, false, true, false}, []int{2, 2, 2, 2, 2}
	wrong := func(i int, x []bool, y []int) {
		if cuts, e := face.Play(run(), x, y); len(cuts) != 0 || e != api.ErrFaceTruth {
			t.Errorf("%d: %v with %v: %v, %d", i, x, y, cuts, e)
		}
	}
	for i := range stopped {
		other := slices.Clone(stopped)
		other[i] = !other[i]
		if i != 1 && i != 2 {
			wrong(i, other, rises)
		} else if _, e := face.Play(run(), other, rises); e != api.OK {
			t.Errorf("%v: %d", other, e)
		}
		for _, n := range append(slices.Clone(odd), -1, 0, 1, 4) {
			others := slices.Clone(rises)
			others[i] = n
			wrong(i, stopped, others)
		}
	}
	for n := range 5 {
		wrong(n, stopped[:n], rises)
		wrong(n, stopped, rises[:n])
		wrong(n, stopped[:n], rises[:n])
	}
	wrong(6, append(slices.Clone(stopped), false), rises)
	wrong(6, stopped, append(slices.Clone(rises), 2))
	wrong(6, append(slices.Clone(stopped), false), append(slices.Clone(rises), 2))
	wrong(7, nil, nil)
}

func TestSeason(t *testing.T) {
	weeks := func(n ...int) []int { return n }
	for i, x := range []struct {
		r            api.FaceRun
		cuts, height api.Span
	}{
		{run(), span(2, 3), span(4, 8)},
		{api.FaceRun{Rise: span(2, 3), Reach: 2, Every: 2, Weeks: weeks(0, 0)}, span(0, 0), span(0, 0)},
		{api.FaceRun{Rise: span(2, 3), Reach: 3, Every: 2, Weeks: weeks(0, 0)}, span(1, 1), span(2, 3)},
		{api.FaceRun{Rise: span(2, 3), Reach: 8, Every: 3, Weeks: weeks(2, 1, 0, 0, 1)}, span(1, 2), span(2, 6)},
		{api.FaceRun{Rise: span(3, 4), Reach: 10, Every: 1, Weeks: weeks(0, 0, 0, 0)}, span(2, 3), span(7, 10)},
		{api.FaceRun{Rise: span(1, 10), Reach: 10, Every: 1, Weeks: weeks(0, 0)}, span(1, 1), span(1, 10)},
		{api.FaceRun{Rise: span(5, 5), Reach: 200, Every: 1, Weeks: weeks(1)}, span(0, 1), span(0, 5)},
		{api.FaceRun{Rise: span(5, 5), Reach: 200, Every: 1, Weeks: weeks(2)}, span(0, 0), span(0, 0)},
		{api.FaceRun{Rise: span(5, 5), Reach: 200, Every: 1, Weeks: weeks(0)}, span(1, 1), span(5, 5)},
		{api.FaceRun{Rise: span(5, 5), Reach: 200, Every: 6, Weeks: weeks(0, 0, 0, 0, 0, 0)}, span(1, 1), span(5, 5)},
		{api.FaceRun{Rise: span(5, 5), Reach: 200, Every: 6, Weeks: weeks(0, 0, 0, 0, 0, 0, 0)}, span(2, 2), span(10, 10)},
		// a cut in the week 1 keeps the week 2 from being worked in
		{api.FaceRun{Rise: span(1, 1), Reach: 200, Every: 2, Weeks: weeks(2, 1, 0)}, span(1, 1), span(1, 1)},
		{api.FaceRun{Rise: span(1, 1), Reach: 0, Every: 1, Weeks: make([]int, 40)}, span(0, 0), span(0, 0)},
		{api.FaceRun{Rise: span(5, 5), Reach: 200, Every: 1, Weeks: make([]int, 40)}, span(40, 40), span(200, 200)},
		{api.FaceRun{Rise: span(10, 10), Reach: 200, Every: 1, Weeks: make([]int, 40)}, span(20, 20), span(200, 200)},
		{api.FaceRun{Rise: span(1, 10), Reach: 200, Every: 1, Weeks: slices.Repeat([]int{1}, 40)}, span(0, 40), span(0, 200)},
		{api.FaceRun{Rise: span(1, 10), Reach: 200, Every: 6, Weeks: slices.Repeat([]int{1}, 40)}, span(0, 7), span(0, 70)},
	} {
		if cuts, height, e := face.Season(x.r); cuts != x.cuts || height != x.height || e != api.OK {
			t.Errorf("%d: %v, %v, %d, want %v, %v", i, cuts, height, e, x.cuts, x.height)
		}
	}
}

// P2.10

// playOf tells in its own way which cuts are made: by the weeks of the cuts before.
func playOf(r api.FaceRun, stopped []bool, rises []int) []api.FaceCut {
	var cuts []api.FaceCut
	height := 0
	for week := range r.Weeks {
		free := !stopped[week] && height+r.Rise.High <= r.Reach
		for _, c := range cuts {
			free = free && week-c.Week > r.Every-1
		}
		if free {
			height += rises[week]
			cuts = append(cuts, api.FaceCut{Week: week, Height: height})
		}
	}
	return cuts
}

// allTruths calls a function with each truth of a run.
func allTruths(r api.FaceRun, see func(stopped []bool, rises []int)) {
	stopped, rises := make([]bool, len(r.Weeks)), make([]int, len(r.Weeks))
	var fill func(week int)
	fill = func(week int) {
		if week == len(r.Weeks) {
			see(stopped, rises)
			return
		}
		for _, is := range []bool{false, true} {
			if is && r.Weeks[week] == api.FaceOpen || !is && r.Weeks[week] == api.FaceStops {
				continue
			}
			stopped[week] = is
			for rises[week] = r.Rise.Low; rises[week] <= r.Rise.High; rises[week]++ {
				fill(week + 1)
			}
		}
	}
	fill(0)
}

func TestSeasonAgainstAllTruths(t *testing.T) {
	d := &dice{6}
	for range 150 {
		r := d.run(d.from(1, 5))
		wantCuts, wantHeight := span(math.MaxInt, 0), span(math.MaxInt, 0)
		allTruths(r, func(stopped []bool, rises []int) {
			cuts := playOf(r, stopped, rises)
			height := 0
			if len(cuts) > 0 {
				height = cuts[len(cuts)-1].Height
			}
			wantCuts = span(min(wantCuts.Low, len(cuts)), max(wantCuts.High, len(cuts)))
			wantHeight = span(min(wantHeight.Low, height), max(wantHeight.High, height))
		})
		if cuts, height, e := face.Season(r); cuts != wantCuts || height != wantHeight || e != api.OK {
			t.Fatalf("%v: %v, %v, %d, want %v, %v", r, cuts, height, e, wantCuts, wantHeight)
		}
	}
}

func TestWhateverTheWeatherIs(t *testing.T) {
	d := &dice{7}
	for range 150 {
		r := d.run(d.from(1, 40))
		r.Reach, r.Rise, r.Every = d.upTo(200), d.span(1, 10), d.from(1, 6)
		between, heights, e := face.Season(r)
		if e != api.OK {
			t.Fatalf("%v: %d", r, e)
		}
		for range 10 {
			stopped, rises := d.truth(r)
			cuts, e := face.Play(r, stopped, rises)
			if want := playOf(r, stopped, rises); !slices.Equal(cuts, want) || e != api.OK {
				t.Fatalf("%v, %v, %v: %v, %d, want %v", r, stopped, rises, cuts, e, want)
			}
			height, last := 0, -r.Every
			for _, c := range cuts {
				if c.Week-last < r.Every || c.Height > r.Reach || stopped[c.Week] {
					t.Fatalf("%v, %v, %v: %v", r, stopped, rises, cuts)
				}
				height, last = c.Height, c.Week
			}
			if len(cuts) < between.Low || len(cuts) > between.High || height < heights.Low || height > heights.High {
				t.Fatalf("%v, %v, %v: %v is not within %v, %v", r, stopped, rises, cuts, between, heights)
			}
		}
	}
}
