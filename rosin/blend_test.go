package rosin_test

import (
	"slices"
	"testing"

	"pinaster/api"
	"pinaster/rosin"
)

// P7.4

func TestMix(t *testing.T) {
	uneven := []api.RosinBatch{pure(0, 0, 0, 0, 12, 0), pure(1, 1, 1, 1, 12, 0), pure(1000, 2000, 300, 1000, 12, 0)}
	for i, x := range []struct {
		b     []api.RosinBatch
		drums []int
		want  api.Spread
	}{
		{batches(), []int{2, 1}, spread(span(280, 300), span(740, 760), span(164, 166), span(4, 5))}, {batches(), []int{1, 1}, spread(span(320, 340), span(730, 750), span(163, 165), span(5, 6))},
		{batches(), []int{4, 0}, batches()[0].Quality}, {batches(), []int{0, 1}, batches()[1].Quality}, {batches(), []int{4, 3}, spread(span(303, 323), span(734, 754), span(163, 165), span(5, 6))},
		{uneven, []int{1, 1, 0}, spread(span(1, 1), span(0, 0), span(0, 0), span(1, 1))}, {uneven, []int{11, 1, 0}, spread(span(1, 1), span(0, 0), span(0, 0), span(1, 1))}, {uneven, []int{1, 11, 0}, spread(span(1, 1), span(0, 0), span(0, 0), span(1, 1))},
		{uneven, []int{12, 0, 0}, api.Spread{}}, {uneven, []int{0, 0, 12}, spread(span(1000, 1000), span(2000, 2000), span(300, 300), span(1000, 1000))},
		{uneven, []int{0, 1, 2}, spread(span(667, 667), span(1333, 1333), span(200, 200), span(667, 667))}, {uneven, []int{1, 0, 2}, spread(span(667, 667), span(1333, 1333), span(200, 200), span(667, 667))}, {uneven, []int{2, 0, 1}, spread(span(334, 334), span(666, 666), span(100, 100), span(334, 334))},
	} {
		if s, e := rosin.Mix(x.b, x.drums); s != x.want || e != api.OK {
			t.Errorf("%d: %v, %d, want %v", i, s, e, x.want)
		}
	}
}

func TestMeets(t *testing.T) {
	b := []api.RosinBatch{
		{Quality: spread(span(290, 300), span(700, 800), span(160, 170), span(3, 5)), Drums: 3},
		{Quality: spread(span(290, 301), span(700, 800), span(160, 170), span(3, 5)), Drums: 3},
		{Quality: spread(span(290, 300), span(699, 800), span(160, 170), span(3, 5)), Drums: 3},
		{Quality: spread(span(290, 300), span(700, 801), span(160, 170), span(3, 5)), Drums: 3},
		{Quality: spread(span(290, 300), span(700, 800), span(159, 170), span(3, 6)), Drums: 3},
	}
	for i, x := range []struct {
		grade int
		b     []api.RosinBatch
		drums []int
		want  bool
	}{
		{0, batches(), []int{2, 1}, true}, {0, batches(), []int{1, 1}, false}, {1, batches(), []int{1, 1}, true}, {0, batches(), []int{4, 0}, true}, {0, batches(), []int{4, 2}, true}, {0, batches(), []int{4, 3}, false}, {1, batches(), []int{0, 6}, true},
		{0, b, []int{1, 0, 0, 0, 0}, true}, {0, b, []int{0, 1, 0, 0, 0}, false}, {0, b, []int{0, 0, 1, 0, 0}, false}, {0, b, []int{0, 0, 0, 1, 0}, false}, {0, b, []int{0, 0, 0, 0, 1}, false},
		{1, b, []int{0, 1, 0, 0, 0}, true}, {1, b, []int{0, 0, 1, 0, 0}, true}, {1, b, []int{0, 0, 0, 1, 0}, true}, {1, b, []int{0, 0, 0, 0, 1}, true},
		{0, b, []int{1, 1, 0, 0, 0}, false}, // 601 by two is rounded up
		{0, b, []int{1, 0, 0, 1, 0}, true},  // 1601 by two is rounded down
		{0, b, []int{1, 0, 1, 0, 0}, false}, // 1399 too
		{0, []api.RosinBatch{pure(0, 750, 161, 0, 2, 0), pure(0, 750, 159, 0, 2, 0)}, []int{1, 1}, true}, {0, []api.RosinBatch{pure(0, 750, 161, 0, 2, 0), pure(0, 750, 159, 0, 2, 0)}, []int{1, 2}, false},
		{0, []api.RosinBatch{pure(0, 750, 160, 4, 2, 0), pure(0, 750, 160, 6, 2, 0)}, []int{1, 1}, true}, {0, []api.RosinBatch{pure(0, 750, 160, 4, 2, 0), pure(0, 750, 160, 6, 2, 0)}, []int{1, 2}, false},
	} {
		if is, e := rosin.Meets(grades(), x.grade, x.b, x.drums); is != x.want || e != api.OK {
			t.Errorf("%d: %v, %d, want %v", i, is, e, x.want)
		}
	}
	if is, e := rosin.Meets(hidden(), 2, batches(), []int{2, 1}); !is || e != api.OK {
		t.Errorf("a grade that no quality has: %v, %d", is, e)
	}
}

// P7.5

func TestBlend(t *testing.T) {
	same := slices.Repeat([]api.RosinBatch{pure(0, 750, 300, 0, 3, 7)}, 5) // all blends cost the same
	odd := []api.RosinBatch{pure(0, 750, 300, 0, 4, 9), pure(0, 750, 300, 0, 4, 3), pure(999, 750, 300, 0, 4, 0), pure(0, 750, 300, 0, 4, 3)}
	for i, x := range []struct {
		grade int
		b     []api.RosinBatch
		many  int
		want  []int
		cost  int
		e     api.Errno
	}{
		{0, batches(), 3, []int{2, 1}, 130, api.OK}, {0, batches(), 7, nil, 0, api.ErrNone}, {0, batches(), 1, []int{1, 0}, 50, api.OK}, {0, batches(), 6, []int{4, 2}, 260, api.OK},
		{1, batches(), 3, []int{0, 3}, 90, api.OK}, {1, batches(), 7, []int{1, 6}, 230, api.OK}, {1, batches(), 10, []int{4, 6}, 380, api.OK}, {1, batches(), 11, nil, 0, api.ErrNone}, {1, batches(), 12, nil, 0, api.ErrNone},
		{0, same, 1, []int{0, 0, 0, 0, 1}, 7, api.OK}, {0, same, 4, []int{0, 0, 0, 1, 3}, 28, api.OK}, {0, same, 12, []int{0, 3, 3, 3, 3}, 84, api.OK}, {1, same, 5, []int{0, 0, 0, 2, 3}, 35, api.OK},
		{0, odd, 3, []int{0, 0, 0, 3}, 9, api.OK}, {0, odd, 4, []int{0, 0, 1, 3}, 9, api.OK}, {0, odd, 6, []int{0, 1, 1, 4}, 15, api.OK}, {0, odd, 9, []int{0, 3, 2, 4}, 21, api.OK}, {0, odd, 12, []int{1, 4, 3, 4}, 33, api.OK}, {1, odd, 4, []int{0, 0, 2, 2}, 6, api.OK},
		{0, []api.RosinBatch{pure(0, 750, 300, 0, 0, 0)}, 1, nil, 0, api.ErrNone}, {0, []api.RosinBatch{pure(0, 750, 300, 0, 12, 10000)}, 12, []int{12}, 120000, api.OK}, {0, []api.RosinBatch{pure(301, 750, 300, 0, 12, 0)}, 5, nil, 0, api.ErrNone},
	} {
		if l, cost, e := rosin.Blend(grades(), x.grade, x.b, x.many); !slices.Equal(l, x.want) || cost != x.cost || e != x.e {
			t.Errorf("%d: %v, %d, %d, want %v, %d, %d", i, l, cost, e, x.want, x.cost, x.e)
		}
	}
	if l, cost, e := rosin.Blend(hidden(), 2, batches(), 3); !slices.Equal(l, []int{2, 1}) || cost != 130 || e != api.OK {
		t.Errorf("a grade that no quality has: %v, %d, %d", l, cost, e)
	}
}

// P7.6

func TestProfit(t *testing.T) {
	dear := batches()
	dear[0].Cost = 500
	even, less, tied := grades(), grades(), grades()
	even[1].Price, less[1].Price, tied[1].Price = 77, 76, 70
	for i, x := range []struct {
		l     []api.RosinGrade
		b     []api.RosinBatch
		many  int
		grade int
		want  []int
		gain  int
		e     api.Errno
	}{
		{grades(), batches(), 3, 0, []int{2, 1}, 140, api.OK}, {grades(), dear, 3, 1, []int{0, 3}, 90, api.OK}, {grades(), batches(), 7, 1, []int{1, 6}, 190, api.OK}, {grades(), batches(), 11, 0, nil, 0, api.ErrNone},
		{even, batches(), 3, 1, []int{0, 3}, 141, api.OK}, {less, batches(), 3, 0, []int{2, 1}, 140, api.OK}, {even, batches(), 1, 1, []int{0, 1}, 47, api.OK}, {tied, batches(), 1, 0, []int{1, 0}, 40, api.OK}, // of the last ones, both grades bring 40
		{free(1), batches(), 2, 0, []int{0, 2}, -58, api.OK}, {free(0), batches(), 10, 0, []int{4, 6}, -380, api.OK}, {free(10000), []api.RosinBatch{pure(0, 0, 0, 0, 12, 0)}, 12, 0, []int{12}, 120000, api.OK}, {free(0), []api.RosinBatch{pure(0, 0, 0, 0, 12, 10000)}, 12, 0, []int{12}, -120000, api.OK},
		{hidden(), batches(), 3, 0, []int{2, 1}, 140, api.OK}, {[]api.RosinGrade{grade("none", 0, 0, 0, 300, 0, 0)}, batches(), 2, 0, nil, 0, api.ErrNone},
		{[]api.RosinGrade{grade("none", 0, 0, 0, 300, 0, 99), grade("x", 300, 700, 800, 160, 5, 90)}, batches(), 3, 1, []int{2, 1}, 140, api.OK},
	} {
		if k, l, gain, e := rosin.Profit(x.l, x.b, x.many); k != x.grade || !slices.Equal(l, x.want) || gain != x.gain || e != x.e {
			t.Errorf("%d: %d, %v, %d, %d, want %d, %v, %d, %d", i, k, l, gain, e, x.grade, x.want, x.gain, x.e)
		}
	}
}

// mixes are the least and the greatest of a part of a blend, found by trying all numbers that the batches may have.
func mixes(b []api.RosinBatch, drums []int, part int) api.Span {
	var all []int
	numbers := make([]int, len(b))
	var search func(i int)
	search = func(i int) {
		if i == len(b) {
			all = append(all, mixed(numbers, drums, part))
			return
		}
		s := spansOf(b[i].Quality)[part]
		for numbers[i] = s.Low; numbers[i] <= s.High; numbers[i]++ {
			search(i + 1)
		}
	}
	search(0)
	return span(slices.Min(all), slices.Max(all))
}

// P7.4, P7.10

func TestMixAgainstAllQualities(t *testing.T) {
	d := &dice{6}
	met := map[bool]int{}
	for range 500 {
		r := d.row()
		b := d.batches(d.from(1, 5), 12, r, 20, 3)
		drums := d.drums(b)
		if drums == nil {
			continue
		}
		s, e := rosin.Mix(b, drums)
		for part, got := range spansOf(s) {
			if want := mixes(b, drums, part); got != want || e != api.OK {
				t.Fatalf("%v, %v, the part %d: %v, %d, want %v", b, drums, part, got, e, want)
			}
		}
		l := d.grades(d.from(1, 8), r, 40)
		for k, g := range l {
			all := true
			for _, q := range corners(s) {
				all = all && q.meets(g)
			}
			is, e := rosin.Meets(l, k, b, drums)
			if is != all || e != api.OK {
				t.Fatalf("%v of %v by %v, %v: %v, %d", k, l, b, drums, is, e)
			}
			met[is]++
		}
	}
	if met[true] < 20 || met[false] < 20 {
		t.Errorf("grades that were met: %v", met)
	}
}

// corners are the qualities of a spread whose parts are all at an end.
func corners(s api.Spread) []row {
	var all []row
	for set := range 16 {
		var r row
		for part, x := range spansOf(s) {
			r[part] = []int{x.Low, x.High}[set>>part&1]
		}
		all = append(all, r)
	}
	return all
}

// P7.10

func TestWhateverQualitiesBatchesHave(t *testing.T) {
	d := &dice{7}
	met := 0
	for range 3000 {
		r := d.row()
		b := d.batches(d.from(1, 5), 12, r, 60, 100)
		drums := d.drums(b)
		if drums == nil {
			continue
		}
		l := d.grades(4, r, 150)
		s, e := rosin.Mix(b, drums)
		for range 5 {
			q := d.blended(b, drums)
			if !q.isIn(s) || e != api.OK {
				t.Fatalf("%v, %v: %v, %d, but a blend has %v", b, drums, s, e, q)
			}
			for k, g := range l {
				is, e := rosin.Meets(l, k, b, drums)
				n, _ := rosin.Grade(l, q.quality())
				if is && (!q.meets(g) || n > k) || e != api.OK {
					t.Fatalf("%v by %v, %v: %v, %d, but a blend has %v of the grade %d", g, b, drums, is, e, q, n)
				}
				if is {
					met++
				}
			}
		}
	}
	if met < 100 {
		t.Errorf("only %d grades were met", met)
	}
}

// cheapest is what Blend returns, found by trying all blends.
func cheapest(g api.RosinGrade, b []api.RosinBatch, many int) (drums []int, cost int) {
	for _, list := range fills(b, many) {
		var low, high row
		for part := range low {
			low[part], high[part] = mixed(ends(b, part, 0), list, part), mixed(ends(b, part, 1), list, part)
		}
		sum := 0
		for i, n := range list {
			sum += n * b[i].Cost
		}
		if low.meets(g) && high.meets(g) && (drums == nil || sum < cost) {
			drums, cost = list, sum
		}
	}
	return drums, cost
}

// ends are the least numbers of a part in batches, or the greatest ones.
func ends(b []api.RosinBatch, part, end int) []int {
	var all []int
	for _, x := range b {
		s := spansOf(x.Quality)[part]
		all = append(all, []int{s.Low, s.High}[end])
	}
	return all
}

// P7.5, P7.6, P7.10

func TestAgainstAllBlends(t *testing.T) {
	d := &dice{8}
	none, later, several := 0, 0, 0
	for range 1000 {
		r := d.row()
		b := d.batches(d.from(1, 5), 6, r, 40, 10)
		l := d.grades(d.from(1, 8), r, 60)
		for i := range l {
			l[i].Price /= 2
			if d.upTo(1) == 0 {
				l[i].Soft, l[i].Acid = span(0, 2000), 0
			}
		}
		many := d.from(1, 12)
		grade, best, gain, found := 0, []int(nil), 0, false
		for k, g := range l {
			drums, cost, e := rosin.Blend(l, k, b, many)
			want, least := cheapest(g, b, many)
			if !slices.Equal(drums, want) || cost != least || (e == api.ErrNone) != (want == nil) || e != api.OK && e != api.ErrNone {
				t.Fatalf("%v, %v, %d: %v, %d, %d, want %v, %d", g, b, many, drums, cost, e, want, least)
			}
			if brings := many*g.Price - cost; want != nil && (!found || brings > gain) {
				grade, best, gain, found = k, want, brings, true
			}
			if len(want) > 1 && slices.Max(want) < many {
				several++
			}
		}
		k, drums, n, e := rosin.Profit(l, b, many)
		if k != grade || !slices.Equal(drums, best) || n != gain || (e == api.OK) != found || e != api.OK && e != api.ErrNone {
			t.Fatalf("%v, %v, %d: %d, %v, %d, %d, want %d, %v, %d", l, b, many, k, drums, n, e, grade, best, gain)
		}
		if !found {
			none++
		}
		if k > 0 {
			later++
		}
	}
	if none < 50 || none > 950 || later < 50 || several < 100 {
		t.Errorf("%d without a blend, %d with a later grade, %d of several batches", none, later, several)
	}
}
