package purse_test

import (
	"math"
	"slices"
	"strconv"
	"testing"

	"pinaster/api"
	"pinaster/purse"
)

// limit is one number of a question, and from where to where it may be.
type limit struct {
	name        string
	at          func(q *question) *int
	least, most int
}

func rateLimits() []limit {
	price := func(i int) func(q *question) *int { return func(q *question) *int { return &q.r.Prices[i] } }
	return []limit{
		{"the first price", price(0), 700, 100000},
		{"the second price", price(1), 300, 900},
		{"the last price", price(2), 0, 700},
		{"part", func(q *question) *int { return &q.r.Part }, 0, 1000},
	}
}

// lotLimits are those of the lot that of chooses; its grade is from 1 to 2.
func lotLimits(of func(q *question) *api.PurseLot) []limit {
	return []limit{
		{"family", func(q *question) *int { return &of(q).Family }, 0, 7},
		{"grams", func(q *question) *int { return &of(q).Grams }, 0, 1000000},
		{"low", func(q *question) *int { return &of(q).Grade.Low }, 0, 2},
		{"high", func(q *question) *int { return &of(q).Grade.High }, 1, 3},
	}
}

func accountLimits() []limit {
	all := []limit{{"keep", func(q *question) *int { return &q.account.Keep }, 0, 1000}}
	for i := range account().Debts {
		all = append(all, limit{"the debt " + strconv.Itoa(i), func(q *question) *int { return &q.account.Debts[i] }, 0, 1000000000})
	}
	return all
}

func bookLimits() []limit {
	var all []limit
	for of, book := range [][]api.PurseEntry{bookA(), bookB()} {
		for i := range book {
			at := func(q *question) *api.PurseEntry { return &[][]api.PurseEntry{q.a, q.b}[of][i] }
			n := " of the entry " + strconv.Itoa(i) + " of the book " + strconv.Itoa(of)
			all = append(all,
				limit{"day" + n, func(q *question) *int { return &at(q).Day }, 0, 36500},
				limit{"family" + n, func(q *question) *int { return &at(q).Family }, 0, 7},
				limit{"grams" + n, func(q *question) *int { return &at(q).Grams }, 0, 1000000},
			)
		}
	}
	return all
}

func checkLimits(t *testing.T, limits []limit, ask func() question, wrong api.Errno, of ...string) {
	t.Helper()
	for _, x := range limits {
		for n, want := range map[int]api.Errno{
			x.least: api.OK, x.most: api.OK,
			x.least - 1: wrong, x.most + 1: wrong, math.MinInt: wrong, math.MaxInt: wrong,
		} {
			q := ask()
			*x.at(&q) = n
			for i, e := range q.answers() {
				if slices.Contains(of, names[i]) && e != want {
					t.Errorf("%s %d: %s: %d, want %d", x.name, n, names[i], e, want)
				}
			}
		}
	}
}

// expect checks what the functions with some names answer.
func expect(t *testing.T, q question, want api.Errno, of ...string) {
	t.Helper()
	for i, e := range q.answers() {
		if slices.Contains(of, names[i]) && e != want {
			t.Errorf("%s with %+v: %d, want %d", names[i], q, e, want)
		}
	}
}

func TestTheExamplesAreValid(t *testing.T) { expect(t, ask(), api.OK, names...) }

// P8.1

func TestLimitsOfRates(t *testing.T) {
	checkLimits(t, rateLimits(), ask, api.ErrPurseRates, "Check", "Advance", "Settle", "Sure")
	for i, x := range []struct {
		r    api.PurseRates
		want api.Errno
	}{
		{prices(0, 0), api.OK}, {prices(0, 100000), api.OK}, {prices(1000, 5, 5, 5), api.OK}, {prices(0, 0, 0), api.OK}, {prices(1, make([]int, 8)...), api.OK}, {prices(1, 8, 7, 6, 5, 4, 3, 2, 1), api.OK},
		{prices(0), api.ErrPurseRates}, {prices(600), api.ErrPurseRates}, {prices(0, make([]int, 9)...), api.ErrPurseRates}, {prices(0, make([]int, 5000)...), api.ErrPurseRates},
		{prices(0, 5, 6), api.ErrPurseRates}, {prices(0, 9, 5, 6), api.ErrPurseRates}, {prices(0, 9, 4, 4, 5), api.ErrPurseRates}, {prices(0, 1, -1), api.ErrPurseRates}, {prices(0, 8, 7, 6, 5, 4, 3, 2, 3), api.ErrPurseRates}, {prices(0, 100001, 100001), api.ErrPurseRates},
	} {
		if e := purse.Check(x.r); e != x.want {
			t.Errorf("%d: %v: %d", i, x.r, e)
		}
	}
}

func TestLimitsOfLots(t *testing.T) {
	between := func() question {
		q := ask()
		q.lot, q.l, q.grades = lot(0, 5, 1, 2), []api.PurseLot{lot(0, 5, 1, 2), lot(0, 5, 1, 2), lot(0, 5, 1, 2)}, []int{1, 1, 1}
		return q
	}
	checkLimits(t, lotLimits(func(q *question) *api.PurseLot { return &q.lot }), between, api.ErrPurseLot, "Advance")
	for i := range 3 {
		limits := lotLimits(func(q *question) *api.PurseLot { return &q.l[i] })
		checkLimits(t, limits, between, api.ErrPurseLot, "Sure")
		checkLimits(t, slices.Delete(slices.Clone(limits), 2, 3), between, api.ErrPurseLot, "Settle") // each grade is the first one
		checkLimits(t, limits[:3], func() question {
			q := between()
			q.grades = []int{2, 2, 2}
			return q
		}, api.ErrPurseLot, "Settle")
	}
	for many := range 36 {
		want := api.OK
		if many > 32 {
			want = api.ErrPurseLot
		}
		q := ask()
		q.l, q.grades = make([]api.PurseLot, many), make([]int, many)
		expect(t, q, want, "Settle", "Sure")
	}
}

func TestGradesDependOnThePrices(t *testing.T) {
	for many := 1; many <= 8; many++ {
		for high := range 11 {
			want := api.OK
			if high > many {
				want = api.ErrPurseLot
			}
			q := ask()
			q.r, q.lot = prices(500, make([]int, many)...), lot(0, 7, 0, high)
			q.l, q.grades = []api.PurseLot{q.lot}, []int{high}
			expect(t, q, want, "Advance", "Settle", "Sure")
			q.lot.Grade.Low = high
			q.l[0] = q.lot
			expect(t, q, want, "Advance", "Settle", "Sure")
		}
	}
}

func wrongRates() []api.PurseRates {
	return []api.PurseRates{{}, prices(600), prices(1001, 5), prices(-1, 5), prices(0, 5, 6), prices(0, 100001), prices(0, -1), prices(0, make([]int, 9)...), prices(math.MaxInt, math.MaxInt, math.MinInt)}
}

func wrongLots() [][]api.PurseLot {
	all := [][]api.PurseLot{make([]api.PurseLot, 33), make([]api.PurseLot, 5000)}
	for _, x := range []api.PurseLot{lot(8, 5, 0, 1), lot(-1, 5, 0, 1), lot(0, -1, 0, 1), lot(0, 1000001, 0, 1), lot(0, 5, -1, 1), lot(0, 5, 1, 0), lot(0, 5, 0, 4), lot(0, 5, 4, 4), lot(0, 5, math.MinInt, math.MaxInt), lot(0, 5, math.MaxInt, math.MinInt), lot(math.MaxInt, math.MaxInt, 0, 0)} {
		all = append(all, []api.PurseLot{x}, []api.PurseLot{lot(0, 5, 0, 1), x}, []api.PurseLot{x, lot(0, 5, 0, 1), lot(0, 5, 0, 1)})
	}
	return all
}

func TestErrorOfTheRatesComesFirst(t *testing.T) {
	for _, r := range wrongRates() {
		for _, l := range append(wrongLots(), ask().l, nil) {
			for _, n := range append(slices.Clone(odd), 0, 1, 8) {
				q := ask()
				q.r, q.l, q.family, q.grades = r, l, n, []int{n}
				if len(l) > 0 {
					q.lot = l[0]
				}
				expect(t, q, api.ErrPurseRates, "Check", "Advance", "Settle", "Sure")
			}
		}
	}
}

func TestErrorsOfLotsComeBeforeTruths(t *testing.T) {
	for _, l := range wrongLots() {
		for _, grades := range [][]int{nil, {0}, {-1}, make([]int, len(l)), {9, 9}, {math.MaxInt, math.MinInt, 0}} {
			q := ask()
			q.l, q.grades = l, grades
			for _, q.family = range append(slices.Clone(odd), 0, 7, 8) {
				expect(t, q, api.ErrPurseLot, "Settle", "Sure")
			}
		}
		if len(l) == 1 {
			q := ask()
			q.lot = l[0]
			expect(t, q, api.ErrPurseLot, "Advance")
		}
	}
}

// P8.2

func TestErrorsOfFamiliesAndTruths(t *testing.T) {
	family := []limit{{"family", func(q *question) *int { return &q.family }, 0, 7}}
	checkLimits(t, family, ask, api.ErrPurseLot, "Sure")
	checkLimits(t, family, func() question {
		q := ask()
		q.l = nil
		return q
	}, api.ErrPurseLot, "Sure")
	for i, x := range ask().l {
		grade := []limit{{"the grade " + strconv.Itoa(i), func(q *question) *int { return &q.grades[i] }, x.Grade.Low, x.Grade.High}}
		checkLimits(t, grade, ask, api.ErrPurseTruth, "Settle")
	}
	for _, grades := range [][]int{nil, {1}, {1, 3}, {1, 3, 2, 2}, {1, 3, 2, -1}, {1, 3, 2, 0, 0}, make([]int, 32), make([]int, 5000)} {
		q := ask()
		q.grades = grades
		expect(t, q, api.ErrPurseTruth, "Settle")
		q.l = nil
		want := api.ErrPurseTruth
		if grades == nil {
			want = api.OK
		}
		expect(t, q, want, "Settle")
	}
}

// P8.3

func TestErrorsOfAccounts(t *testing.T) {
	checkLimits(t, accountLimits(), func() question {
		q := ask()
		q.many = 0
		return q
	}, api.ErrPurseAccount, "Pay", "Enough")
	checkLimits(t, []limit{{"income", func(q *question) *int { return &q.income }, 0, 1000000000}}, ask, api.ErrRange, "Pay")
	checkLimits(t, []limit{{"many", func(q *question) *int { return &q.many }, 0, 3}}, ask, api.ErrRange, "Enough")
	for size := range 8 {
		q := ask()
		q.account, q.many = debts(0, make([]int, size)...), size
		want := api.OK
		if size > 5 {
			want = api.ErrPurseAccount
		}
		expect(t, q, want, "Pay", "Enough")
		q.many++
		if size <= 5 {
			want = api.ErrRange
		}
		expect(t, q, want, "Enough")
	}
}

func TestErrorsOfAccountsComeFirst(t *testing.T) {
	for _, a := range []api.PurseAccount{debts(-1), debts(1001), debts(0, -1), debts(0, 5, 1000000001), debts(1001, 5), debts(0, make([]int, 6)...), debts(0, make([]int, 5000)...), debts(0, 1, 2, 3, 4, -5), debts(1000, 1, -1)} {
		for _, n := range append(slices.Clone(odd), 0, 1, 2, 6, 1000000001) {
			q := ask()
			q.account, q.income, q.many = a, n, n
			expect(t, q, api.ErrPurseAccount, "Pay", "Enough")
		}
	}
	for _, n := range append(slices.Clone(odd), 2, 3) { // not ErrNone
		q := ask()
		q.account, q.many = debts(1000, 5), n
		expect(t, q, api.ErrRange, "Enough")
	}
}

// P8.4

func TestErrorsOfVillages(t *testing.T) {
	limits := func(i, floor, least, most int) []limit {
		return []limit{
			{"claim", func(q *question) *int { return &q.villages[i].Claim }, 1, 1000000},
			{"floor", func(q *question) *int { return &q.villages[i].Floor }, 0, floor},
			{"cap", func(q *question) *int { return &q.villages[i].Cap }, least, most},
		}
	}
	with := func(quota int, l ...api.PurseVillage) func() question {
		return func() question {
			q := ask()
			q.quota, q.villages = quota, slices.Clone(l)
			return q
		}
	}
	checkLimits(t, limits(0, 10, 3, 2000), with(2000, village(5, 3, 10), village(7, 0, 2000)), api.ErrPurseVillage, "Divide")
	checkLimits(t, limits(1, 2000, 0, 2000), with(2000, village(5, 0, 2000), village(7, 0, 2000)), api.ErrPurseVillage, "Divide")
	checkLimits(t, limits(2, 9, 4, 2000), with(1000, village(5, 0, 2000), village(7, 2, 4), village(1, 4, 9)), api.ErrPurseVillage, "Divide")
	checkLimits(t, []limit{{"quota", func(q *question) *int { return &q.quota }, 0, 2000}}, with(0, village(5, 0, 2000), village(5, 0, 2000)), api.ErrRange, "Divide")
	for many := range 12 {
		q := ask()
		q.quota, q.villages = 0, slices.Repeat(villages()[:1], many)
		want := api.OK
		if many < 1 || many > 8 {
			want = api.ErrPurseVillage
		}
		expect(t, q, want, "Divide")
	}
}

func TestOrderOfErrorsOfVillages(t *testing.T) {
	bad := [][]api.PurseVillage{nil, slices.Repeat(villages(), 3), make([]api.PurseVillage, 5000)}
	for _, v := range []api.PurseVillage{village(0, 0, 5), village(-1, 0, 5), village(1000001, 0, 5), village(1, -1, 5), village(1, 6, 5), village(1, 0, 2001), village(1, 2001, 2001), village(1, 0, -1), village(1, -1, -1), village(1, math.MaxInt, math.MaxInt), village(1, math.MinInt, math.MaxInt), village(math.MaxInt, 0, 5)} {
		bad = append(bad, []api.PurseVillage{v}, append(villages(), v), append([]api.PurseVillage{v}, villages()...))
	}
	for _, l := range bad {
		for _, n := range append(slices.Clone(odd), 0, 1, 5, 2000, 2001) {
			q := ask()
			q.villages, q.quota = l, n
			expect(t, q, api.ErrPurseVillage, "Divide")
		}
	}
	for _, l := range [][]api.PurseVillage{villages(), {village(1, 0, 0)}, {village(1, 5, 9)}, {village(1, 2000, 2000), village(1, 2000, 2000)}} {
		for _, n := range append(slices.Clone(odd), 2001, 2002) { // not ErrNone
			q := ask()
			q.villages, q.quota = l, n
			expect(t, q, api.ErrRange, "Divide")
		}
	}
}

// P8.5

func TestErrorsOfBooks(t *testing.T) {
	of := []string{"Agree", "Cover", "Open"}
	checkLimits(t, bookLimits(), ask, api.ErrPurseBook, of...)
	checkLimits(t, []limit{
		{"days", func(q *question) *int { return &q.near.Days }, 0, 30},
		{"grams", func(q *question) *int { return &q.near.Grams }, 0, 1000000},
	}, ask, api.ErrRange, of...)
	for size := range 20 {
		want := api.OK
		if size > 16 {
			want = api.ErrPurseBook
		}
		q := ask()
		q.a = make([]api.PurseEntry, size)
		expect(t, q, want, of...)
		q.b = q.a
		expect(t, q, want, of...)
		q.a = bookA()
		expect(t, q, want, of...)
	}
}

func TestErrorsOfBooksComeFirst(t *testing.T) {
	bad := [][]api.PurseEntry{make([]api.PurseEntry, 17), make([]api.PurseEntry, 5000)}
	for _, x := range []api.PurseEntry{entry(-1, 0, 0), entry(36501, 0, 0), entry(0, -1, 0), entry(0, 8, 0), entry(0, 0, -1), entry(0, 0, 1000001), entry(math.MinInt, math.MaxInt, math.MinInt)} {
		bad = append(bad, []api.PurseEntry{x}, append(bookA(), x))
	}
	nears := []api.PurseNear{near(1, 5), near(31, 5), near(-1, 5), near(1, 1000001), near(1, -1), near(math.MinInt, math.MaxInt)}
	for _, book := range bad {
		for _, n := range nears {
			q := ask()
			q.near = n
			q.a = book
			expect(t, q, api.ErrPurseBook, "Agree", "Cover", "Open")
			q.b = book
			expect(t, q, api.ErrPurseBook, "Agree", "Cover", "Open")
			q.a = nil
			expect(t, q, api.ErrPurseBook, "Agree", "Cover", "Open")
		}
	}
	for _, n := range nears[1:] {
		for _, q := range []question{ask(), {}} {
			q.near = n
			expect(t, q, api.ErrRange, "Agree", "Cover", "Open")
		}
	}
}
