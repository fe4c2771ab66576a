package purse_test

import (
	"math"
	"slices"
	"sort"

	"pinaster/api"
	"pinaster/purse"
)

// odd are numbers that are in nothing of purse.
var odd = []int{-1, -2, math.MinInt, math.MaxInt, math.MinInt32, math.MinInt + 1, math.MaxInt - 1}

func span(low, high int) api.Span { return api.Span{Low: low, High: high} }

func prices(part int, list ...int) api.PurseRates { return api.PurseRates{Prices: list, Part: part} }

// rates are those of the chapter's examples.
func rates() api.PurseRates { return prices(600, 900, 700, 300) }

func lot(family, grams, low, high int) api.PurseLot {
	return api.PurseLot{Family: family, Grams: grams, Grade: span(low, high)}
}

func debts(keep int, list ...int) api.PurseAccount { return api.PurseAccount{Keep: keep, Debts: list} }

// account is that of the chapter's examples.
func account() api.PurseAccount { return debts(300, 500, 1000, 200) }

func village(claim, floor, most int) api.PurseVillage {
	return api.PurseVillage{Claim: claim, Floor: floor, Cap: most}
}

// villages are those of the chapter's examples.
func villages() []api.PurseVillage {
	return []api.PurseVillage{village(53, 0, 10), village(24, 0, 10), village(23, 0, 10)}
}

func entry(day, family, grams int) api.PurseEntry {
	return api.PurseEntry{Day: day, Family: family, Grams: grams}
}

// bookA and bookB are those of the chapter's examples.
func bookA() []api.PurseEntry {
	return []api.PurseEntry{entry(1, 0, 100), entry(2, 0, 100), entry(5, 1, 50)}
}

func bookB() []api.PurseEntry { return []api.PurseEntry{entry(2, 0, 102), entry(5, 1, 60)} }

func near(days, grams int) api.PurseNear { return api.PurseNear{Days: days, Grams: grams} }

// days is a book of entries that differ only in their days.
func days(list ...int) []api.PurseEntry {
	var book []api.PurseEntry
	for _, day := range list {
		book = append(book, entry(day, 0, 0))
	}
	return book
}

func sum(list []int) int {
	all := 0
	for _, n := range list {
		all += n
	}
	return all
}

// thousandth is the greatest whole number of which a thousand are at most n, searched.
func thousandth(n int) int { return sort.Search(n+1, func(k int) bool { return 1000*k > n }) - 1 }

// thousandthUp is the least whole number of which a thousand are at least n, searched.
func thousandthUp(n int) int { return sort.Search(n+1, func(k int) bool { return 1000*k >= n }) }

func worth(r api.PurseRates, l api.PurseLot, grade int) int {
	if grade == len(r.Prices) {
		return 0
	}
	return thousandth(l.Grams * r.Prices[grade])
}

func advance(r api.PurseRates, l api.PurseLot) int {
	return thousandth(worth(r, l, l.Grade.High) * r.Part)
}

// truths are all truths of lots.
func truths(l []api.PurseLot) [][]int {
	all := [][]int{nil}
	for _, x := range l {
		var next [][]int
		for _, grades := range all {
			for grade := x.Grade.Low; grade <= x.Grade.High; grade++ {
				next = append(next, append(slices.Clone(grades), grade))
			}
		}
		all = next
	}
	return all
}

// endsOf are the truths in which all grades are the first ones, and the last ones.
func endsOf(l []api.PurseLot) (first, last []int) {
	for _, x := range l {
		first, last = append(first, x.Grade.Low), append(last, x.Grade.High)
	}
	return first, last
}

// paidByCents is what an income pays, cent by cent.
func paidByCents(a api.PurseAccount, income int) []int {
	paid := make([]int, len(a.Debts))
	for range income - thousandthUp(income*a.Keep) {
		for i := range paid {
			if paid[i] < a.Debts[i] {
				paid[i]++
				break
			}
		}
	}
	return paid
}

func isWhollyPaid(a api.PurseAccount, paid []int, many int) bool {
	return len(paid) == len(a.Debts) && slices.Equal(paid[:many], a.Debts[:many])
}

// hasBetterRight reports whether a village with some barrels gets one more before another one does.
func hasBetterRight(l []api.PurseVillage, i, barrels, other, others int) bool {
	right, rival := l[i].Claim*(2*others+1), l[other].Claim*(2*barrels+1)
	return right > rival || right == rival && i < other
}

// dividedByBarrels divides a quota barrel by barrel, or returns nil if it cannot be divided.
func dividedByBarrels(quota int, l []api.PurseVillage) []int {
	var has []int
	for _, v := range l {
		has = append(has, v.Floor)
	}
	for sum(has) < quota {
		best := -1
		for i, v := range l {
			if has[i] < v.Cap && (best < 0 || hasBetterRight(l, i, has[i], best, has[best])) {
				best = i
			}
		}
		if best < 0 {
			return nil
		}
		has[best]++
	}
	if sum(has) > quota {
		return nil
	}
	return has
}

func agree(x, y api.PurseEntry, n api.PurseNear) bool {
	if x.Day > y.Day {
		x.Day, y.Day = y.Day, x.Day
	}
	if x.Grams > y.Grams {
		x.Grams, y.Grams = y.Grams, x.Grams
	}
	return x.Family == y.Family && x.Day+n.Days >= y.Day && x.Grams+n.Grams >= y.Grams
}

// arePairs reports whether a list is pairs of two books, by increasing A.
func arePairs(a, b []api.PurseEntry, n api.PurseNear, pairs []api.PursePair) bool {
	last, taken := -1, map[int]bool{}
	for _, p := range pairs {
		if p.A <= last || p.A >= len(a) || p.B < 0 || p.B >= len(b) || taken[p.B] || !agree(a[p.A], b[p.B], n) {
			return false
		}
		last, taken[p.B] = p.A, true
	}
	return true
}

func isIncreasing(list []int, size int) bool {
	last := -1
	for _, i := range list {
		if i <= last || i >= size {
			return false
		}
		last = i
	}
	return true
}

// isCover reports whether entries are a cover of two books, with both lists increasing.
func isCover(a, b []api.PurseEntry, n api.PurseNear, c api.PurseCover) bool {
	if !isIncreasing(c.A, len(a)) || !isIncreasing(c.B, len(b)) {
		return false
	}
	for i, x := range a {
		for k, y := range b {
			if agree(x, y, n) && !slices.Contains(c.A, i) && !slices.Contains(c.B, k) {
				return false
			}
		}
	}
	return true
}

// alone are the entries of a book that agree with none of another one.
func alone(book, other []api.PurseEntry, n api.PurseNear) []int {
	var list []int
	for i, x := range book {
		if !slices.ContainsFunc(other, func(y api.PurseEntry) bool { return agree(x, y, n) }) {
			list = append(list, i)
		}
	}
	return list
}

// mostPairs is how many pairs two books have at most, found by trying all of them.
func mostPairs(a, b []api.PurseEntry, n api.PurseNear) int {
	if len(a) == 0 {
		return 0
	}
	most := mostPairs(a[1:], b, n)
	for i, y := range b {
		if agree(a[0], y, n) {
			rest := append(slices.Clone(b[:i]), b[i+1:]...)
			most = max(most, 1+mostPairs(a[1:], rest, n))
		}
	}
	return most
}

// leastCover is how many entries a cover of two books has at least, found by trying all sets of entries of A.
func leastCover(a, b []api.PurseEntry, n api.PurseNear) int {
	least := len(a)
	for set := range 1 << len(a) {
		needed := map[int]bool{}
		many := 0
		for i, x := range a {
			many += set >> i & 1
			for k, y := range b {
				if set>>i&1 == 0 && agree(x, y, n) {
					needed[k] = true
				}
			}
		}
		least = min(least, many+len(needed))
	}
	return least
}

// dice throws the same numbers in each run of the tests.
type dice struct{ seed uint64 }

// upTo throws a number from 0 to most.
func (d *dice) upTo(most int) int {
	d.seed = d.seed*6364136223846793005 + 1442695040888963407
	return int(d.seed >> 33 % uint64(most+1))
}

func (d *dice) from(least, most int) int { return least + d.upTo(most-least) }

func (d *dice) rates(most int) api.PurseRates {
	r := api.PurseRates{Part: d.upTo(1000)}
	for range d.from(1, 8) {
		r.Prices = append(r.Prices, d.upTo(most))
	}
	slices.Sort(r.Prices)
	slices.Reverse(r.Prices)
	return r
}

// lots throws lots whose grades are at most so many each.
func (d *dice) lots(r api.PurseRates, many, grams, grades int) []api.PurseLot {
	var l []api.PurseLot
	for range many {
		low := d.upTo(len(r.Prices))
		l = append(l, lot(d.upTo(7), d.upTo(grams), low, d.from(low, min(low+grades-1, len(r.Prices)))))
	}
	return l
}

func (d *dice) truth(l []api.PurseLot) []int {
	var grades []int
	for _, x := range l {
		grades = append(grades, d.from(x.Grade.Low, x.Grade.High))
	}
	return grades
}

func (d *dice) account(most int) api.PurseAccount {
	a := api.PurseAccount{Keep: d.upTo(1000)}
	for range d.upTo(5) {
		a.Debts = append(a.Debts, d.upTo(most)*min(1, d.upTo(4)))
	}
	return a
}

func (d *dice) villages(claim, most int) []api.PurseVillage {
	var l []api.PurseVillage
	for range d.from(1, 8) {
		v := village(d.from(1, claim), 0, d.upTo(most))
		v.Floor = d.upTo(v.Cap) * d.upTo(1) / 4
		l = append(l, v)
	}
	return l
}

func (d *dice) book(many, days, families, grams int) []api.PurseEntry {
	var book []api.PurseEntry
	for range many {
		book = append(book, entry(d.upTo(days), d.upTo(families), d.upTo(grams)))
	}
	return book
}

// question is what all functions are asked.
type question struct {
	r            api.PurseRates
	lot          api.PurseLot
	l            []api.PurseLot
	grades       []int
	family       int
	account      api.PurseAccount
	income, many int
	quota        int
	villages     []api.PurseVillage
	a, b         []api.PurseEntry
	near         api.PurseNear
}

func ask() question {
	return question{
		r: rates(), lot: lot(0, 5000, 0, 1), l: []api.PurseLot{lot(0, 5000, 0, 1), lot(1, 333, 0, 3), lot(0, 40, 2, 2)}, grades: []int{1, 3, 2}, family: 0,
		account: account(), income: 1500, many: 2,
		quota: 10, villages: villages(),
		a: bookA(), b: bookB(), near: near(1, 5),
	}
}

// names are the functions, in the order of answers.
var names = []string{"Check", "Advance", "Settle", "Sure", "Pay", "Enough", "Divide", "Agree", "Cover", "Open"}

// answers are the errors that all functions return: -1 where another result is not zero with an error.
func (q question) answers() []api.Errno {
	zeroWith := func(e api.Errno, zero bool) api.Errno {
		if e != api.OK && !zero {
			return -1
		}
		return e
	}
	n, e1 := purse.Advance(q.r, q.lot)
	bills, e2 := purse.Settle(q.r, q.l, q.grades)
	sure, e3 := purse.Sure(q.r, q.l, q.family)
	paid, cash, e4 := purse.Pay(q.account, q.income)
	income, e5 := purse.Enough(q.account, q.many)
	barrels, e6 := purse.Divide(q.quota, q.villages)
	pairs, e7 := purse.Agree(q.a, q.b, q.near)
	c, e8 := purse.Cover(q.a, q.b, q.near)
	inA, inB, e9 := purse.Open(q.a, q.b, q.near)
	return []api.Errno{
		purse.Check(q.r),
		zeroWith(e1, n == 0),
		zeroWith(e2, len(bills) == 0),
		zeroWith(e3, sure == api.Span{}),
		zeroWith(e4, len(paid) == 0 && cash == 0),
		zeroWith(e5, income == 0),
		zeroWith(e6, len(barrels) == 0),
		zeroWith(e7, len(pairs) == 0),
		zeroWith(e8, len(c.A)+len(c.B) == 0),
		zeroWith(e9, len(inA)+len(inB) == 0),
	}
}
