package rosin_test

import (
	"math"
	"slices"
	"strconv"

	"pinaster/api"
	"pinaster/rosin"
)

// odd are numbers that are in nothing of rosin.
var odd = []int{-1, -2, math.MinInt, math.MaxInt, math.MinInt32, math.MinInt + 1, math.MaxInt - 1}

// most is the greatest number of each part.
var most = [4]int{1000, 2000, 300, 1000}

func span(low, high int) api.Span { return api.Span{Low: low, High: high} }

func spread(glass, soft, acid, dirt api.Span) api.Spread {
	return api.Spread{Glass: glass, Soft: soft, Acid: acid, Dirt: dirt}
}

func grade(name string, glass, low, high, acid, dirt, price int) api.RosinGrade {
	return api.RosinGrade{Name: name, Glass: glass, Soft: span(low, high), Acid: acid, Dirt: dirt, Price: price}
}

// grades are those of the chapter's examples.
func grades() []api.RosinGrade {
	return []api.RosinGrade{grade("x", 300, 700, 800, 160, 5, 90), grade("n", 600, 650, 850, 150, 20, 60)}
}

// free are grades of which all qualities meet the only one.
func free(price int) []api.RosinGrade {
	return []api.RosinGrade{grade("all", 1000, 0, 2000, 0, 1000, price)}
}

func test(part, read, wrong int) api.RosinTest {
	return api.RosinTest{Part: part, Read: read, Wrong: wrong}
}

// tests are those of the chapter's examples.
func tests() []api.RosinTest {
	return []api.RosinTest{test(0, 310, 15), test(1, 760, 10), test(2, 165, 3), test(3, 4, 1)}
}

// batches are those of the chapter's examples.
func batches() []api.RosinBatch {
	return []api.RosinBatch{
		{Quality: spread(span(200, 220), span(760, 780), span(168, 170), span(2, 3)), Drums: 4, Cost: 50},
		{Quality: spread(span(440, 460), span(700, 720), span(158, 160), span(8, 9)), Drums: 6, Cost: 30},
	}
}

// pure is a batch of one quality.
func pure(glass, soft, acid, dirt, drums, cost int) api.RosinBatch {
	return api.RosinBatch{Quality: spread(span(glass, glass), span(soft, soft), span(acid, acid), span(dirt, dirt)), Drums: drums, Cost: cost}
}

// row is what api calls glass, soft, acid and dirt, in this order.
type row [4]int

func (r row) quality() api.Quality {
	return api.Quality{Glass: r[0], Soft: r[1], Acid: r[2], Dirt: r[3]}
}

func spansOf(s api.Spread) [4]api.Span { return [4]api.Span{s.Glass, s.Soft, s.Acid, s.Dirt} }

func (r row) isIn(s api.Spread) bool {
	for part, x := range spansOf(s) {
		if r[part] < x.Low || r[part] > x.High {
			return false
		}
	}
	return true
}

// meetsIn reports whether a number of a part is what a grade asks for.
func meetsIn(g api.RosinGrade, part, n int) bool {
	switch part {
	case 0:
		return n <= g.Glass
	case 1:
		return n >= g.Soft.Low && n <= g.Soft.High
	case 2:
		return n >= g.Acid
	}
	return n <= g.Dirt
}

func (r row) meets(g api.RosinGrade) bool {
	for part, n := range r {
		if !meetsIn(g, part, n) {
			return false
		}
	}
	return true
}

func (r row) grade(l []api.RosinGrade) int {
	for i, g := range l {
		if r.meets(g) {
			return i
		}
	}
	return len(l)
}

func isTrue(x api.RosinTest, r row) bool {
	return x.Read-r[x.Part] <= x.Wrong && r[x.Part]-x.Read <= x.Wrong
}

// toldBy are the numbers of a part that tests allow, found by trying all of them.
func toldBy(t []api.RosinTest, part int) []int {
	var all []int
	for n := range most[part] + 1 {
		r := row{}
		r[part] = n
		if !slices.ContainsFunc(t, func(x api.RosinTest) bool { return x.Part == part && !isTrue(x, r) }) {
			all = append(all, n)
		}
	}
	return all
}

// metBy are the grades that a number of a part meets, as bits.
func metBy(l []api.RosinGrade, part, n int) int {
	set := 0
	for i, g := range l {
		if meetsIn(g, part, n) {
			set |= 1 << i
		}
	}
	return set
}

// gradesOf are the grades of qualities with these numbers of each part, found by trying all bits of them together.
func gradesOf(l []api.RosinGrade, numbers [4][]int) []int {
	sets := map[int]bool{1<<len(l) - 1: true}
	for part, list := range numbers {
		of := map[int]bool{}
		for _, n := range list {
			of[metBy(l, part, n)] = true
		}
		both := map[int]bool{}
		for a := range sets {
			for b := range of {
				both[a&b] = true
			}
		}
		sets = both
	}
	return elements(l, sets)
}

// elements are the first elements of sets, increasing.
func elements(l []api.RosinGrade, sets map[int]bool) []int {
	var all []int
	for set := range sets {
		first := 0
		for first < len(l) && set>>first&1 == 0 {
			first++
		}
		all = append(all, first)
	}
	slices.Sort(all)
	return slices.Compact(all)
}

// mixed is a part of a blend whose batches have these numbers of it.
func mixed(numbers, drums []int, part int) int {
	sum, all := 0, 0
	for i, n := range drums {
		sum += n * numbers[i]
		all += n
	}
	if (part == 0 || part == 3) && sum%all > 0 {
		return sum/all + 1
	}
	return sum / all
}

// fills are all numbers of drums of batches that are many drums, in their order.
func fills(b []api.RosinBatch, many int) [][]int {
	if len(b) == 0 {
		if many == 0 {
			return [][]int{nil}
		}
		return nil
	}
	var all [][]int
	for n := range min(many, b[0].Drums) + 1 {
		for _, rest := range fills(b[1:], many-n) {
			all = append(all, append([]int{n}, rest...))
		}
	}
	return all
}

// dice throws the same numbers in each run of the tests.
type dice struct{ seed uint64 }

// upTo throws a number from 0 to most.
func (d *dice) upTo(most int) int {
	d.seed = d.seed*6364136223846793005 + 1442695040888963407
	return int(d.seed >> 33 % uint64(most+1))
}

func (d *dice) from(least, most int) int { return least + d.upTo(most-least) }

func (d *dice) in(s api.Span) int { return d.from(s.Low, s.High) }

func (d *dice) span(least, most int) api.Span {
	low := d.from(least, most)
	return span(low, d.from(low, most))
}

// near throws a number that is at most so far from another one, and from least to most.
func (d *dice) near(n, far, least, most int) int {
	return d.from(max(least, n-far), min(most, n+far))
}

func (d *dice) row() row {
	var r row
	for part := range r {
		r[part] = d.upTo(most[part])
	}
	return r
}

// rowNear throws a quality whose parts are at most so far from those of another one.
func (d *dice) rowNear(r row, far int) row {
	for part := range r {
		r[part] = d.near(r[part], far, 0, most[part])
	}
	return r
}

// grades throws grades whose limits are at most so far from a quality.
func (d *dice) grades(many int, r row, far int) []api.RosinGrade {
	var l []api.RosinGrade
	price := d.from(0, 100)
	for i := range many {
		x := d.rowNear(r, far)
		high := d.near(r[1], far, x[1], 2000)
		if x[1] > r[1]+far {
			high = x[1]
		}
		price = d.upTo(price)
		l = append(l, grade("g"+strconv.Itoa(i), x[0], x[1], high, x[2], x[3], price))
	}
	return l
}

// tests throws tests that are true of a quality.
func (d *dice) tests(many int, r row, wrong int) []api.RosinTest {
	var t []api.RosinTest
	for range many {
		t = append(t, d.test(d.upTo(3), r, wrong))
	}
	return t
}

func (d *dice) test(part int, r row, wrong int) api.RosinTest {
	w := d.upTo(wrong)
	return test(part, d.near(r[part], w, 0, 2000), w)
}

// batches throws batches, with qualities that are at most so far from one, and spans of at most so much.
func (d *dice) batches(many, drums int, r row, far, wide int) []api.RosinBatch {
	var b []api.RosinBatch
	for range many {
		x, y := d.rowNear(r, far), row{}
		for part := range x {
			y[part] = min(most[part], x[part]+d.upTo(wide))
		}
		b = append(b, api.RosinBatch{
			Quality: spread(span(x[0], y[0]), span(x[1], y[1]), span(x[2], y[2]), span(x[3], y[3])),
			Drums:   d.upTo(drums),
			Cost:    d.upTo(6) * d.upTo(9),
		})
	}
	return b
}

// drums throws a blend of batches, or nil if they have no drums.
func (d *dice) drums(b []api.RosinBatch) []int {
	var full []int
	for i, x := range b {
		full = append(full, slices.Repeat([]int{i}, x.Drums)...)
	}
	if len(full) == 0 {
		return nil
	}
	drums := make([]int, len(b))
	for range d.from(1, min(12, len(full))) {
		k := d.upTo(len(full) - 1)
		drums[full[k]]++
		full = slices.Delete(full, k, k+1)
	}
	return drums
}

// blended throws a quality that a blend truly has.
func (d *dice) blended(b []api.RosinBatch, drums []int) row {
	var truths []row
	for _, x := range b {
		truths = append(truths, d.truth(x.Quality))
	}
	var q row
	for part := range q {
		var numbers []int
		for _, r := range truths {
			numbers = append(numbers, r[part])
		}
		q[part] = mixed(numbers, drums, part)
	}
	return q
}

// truth throws a quality that lies in a spread.
func (d *dice) truth(s api.Spread) row {
	var r row
	for part, x := range spansOf(s) {
		r[part] = d.in(x)
	}
	return r
}

// question is what all functions are asked.
type question struct {
	l     []api.RosinGrade
	q     api.Quality
	t     []api.RosinTest
	wrong int
	grade int
	b     []api.RosinBatch
	drums []int
	many  int
}

func ask() question {
	return question{grades(), row{310, 760, 165, 4}.quality(), tests(), 5, 0, batches(), []int{2, 1}, 3}
}

// names are the functions, in the order of answers.
var names = []string{"Check", "Grade", "Tell", "Grades", "Settle", "Mix", "Meets", "Blend", "Profit"}

// answers are the errors that all functions return: -1 where another result is not zero with an error.
func (q question) answers() []api.Errno {
	zeroWith := func(e api.Errno, zero bool) api.Errno {
		if e != api.OK && !zero {
			return -1
		}
		return e
	}
	n, e1 := rosin.Grade(q.l, q.q)
	told, e2 := rosin.Tell(q.t)
	list, e3 := rosin.Grades(q.l, q.t)
	part, many, e4 := rosin.Settle(q.l, q.t, q.wrong)
	mix, e5 := rosin.Mix(q.b, q.drums)
	is, e6 := rosin.Meets(q.l, q.grade, q.b, q.drums)
	blend, cost, e7 := rosin.Blend(q.l, q.grade, q.b, q.many)
	best, drums, gain, e8 := rosin.Profit(q.l, q.b, q.many)
	return []api.Errno{
		rosin.Check(q.l),
		zeroWith(e1, n == 0),
		zeroWith(e2, told == api.Spread{}),
		zeroWith(e3, len(list) == 0),
		zeroWith(e4, part == 0 && many == 0),
		zeroWith(e5, mix == api.Spread{}),
		zeroWith(e6, !is),
		zeroWith(e7, len(blend) == 0 && cost == 0),
		zeroWith(e8, best == 0 && len(drums) == 0 && gain == 0),
	}
}
