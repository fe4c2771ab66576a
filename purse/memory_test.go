package purse_test

import (
	"fmt"
	"slices"
	"testing"

	"pinaster/api"
	"pinaster/purse"
)

// roomy returns a list with room behind it, and all of that room.
func roomy[T any](list []T, canary T) (short, whole []T) {
	whole = append(slices.Clone(list), canary, canary, canary)
	return whole[:len(list)], whole
}

// isUnchanged reports whether a list with room behind it is as roomy made it.
func isUnchanged[T comparable](whole, list []T, canary T) bool {
	_, want := roomy(list, canary)
	return slices.Equal(whole, want)
}

// P8.6

func TestArgumentsAreOnlyRead(t *testing.T) {
	q, was := ask(), ask()
	odd, noLot, noVillage, noEntry := -7, lot(-7, -7, -7, -7), village(-7, -7, -7), entry(-7, -7, -7)
	var allPrices, allGrades, allDebts []int
	var allLots []api.PurseLot
	var allVillages []api.PurseVillage
	var allA, allB []api.PurseEntry
	q.r.Prices, allPrices = roomy(q.r.Prices, odd)
	q.grades, allGrades = roomy(q.grades, odd)
	q.account.Debts, allDebts = roomy(q.account.Debts, odd)
	q.l, allLots = roomy(q.l, noLot)
	q.villages, allVillages = roomy(q.villages, noVillage)
	q.a, allA = roomy(q.a, noEntry)
	q.b, allB = roomy(q.b, noEntry)

	expect(t, q, api.OK, names...)

	if !isUnchanged(allPrices, was.r.Prices, odd) || !isUnchanged(allGrades, was.grades, odd) || !isUnchanged(allDebts, was.account.Debts, odd) {
		t.Errorf("the prices: %v, the grades: %v, the debts: %v", allPrices, allGrades, allDebts)
	}
	if !isUnchanged(allLots, was.l, noLot) || !isUnchanged(allVillages, was.villages, noVillage) || !isUnchanged(allA, was.a, noEntry) || !isUnchanged(allB, was.b, noEntry) {
		t.Errorf("the lots: %v, the villages: %v, the books: %v, %v", allLots, allVillages, allA, allB)
	}
}

// spoil overwrites all of a list, also the room behind it.
func spoil[T any](list []T, canary T) {
	for i := range list[:cap(list)] {
		list[:cap(list)][i] = canary
	}
}

func TestResultsAreNew(t *testing.T) {
	q := ask()
	q.account, q.income = debts(0, 500, 1000, 200), 9000 // all is paid
	q.quota, q.villages = 12, []api.PurseVillage{village(5, 5, 5), village(5, 7, 7)}
	q.a, q.b, q.near = days(1, 1, 9, 5, 20), days(1, 30, 9, 9, 31), near(0, 0) // one entry of each pair is the only one in a cover
	lists := func() [][]int {
		paid, _, _ := purse.Pay(q.account, q.income)
		barrels, _ := purse.Divide(q.quota, q.villages)
		c, _ := purse.Cover(q.a, q.b, q.near)
		inA, inB, _ := purse.Open(q.a, q.b, q.near)
		return [][]int{paid, barrels, c.A, c.B, inA, inB}
	}
	want := [][]int{{500, 1000, 200}, {5, 7}, {2}, {0}, {3, 4}, {1, 4}}
	same := func(x, y []int) bool { return slices.Equal(x, y) }
	for i := range want {
		first := lists()
		spoil(first[i], -9)
		for k, list := range first { // no two lists of one result share memory
			if k != i && !same(list, want[k]) {
				t.Errorf("the lists %d and %d share memory: %v", i, k, list)
			}
		}
		if again := lists(); !slices.EqualFunc(again, want, same) {
			t.Errorf("the list %d is kept: %v", i, again)
		}
	}
	bills, _ := purse.Settle(q.r, q.l, q.grades)
	kept := slices.Clone(bills)
	spoil(bills, api.PurseBill{Advance: -9, Rest: -9})
	if again, _ := purse.Settle(q.r, q.l, q.grades); !slices.Equal(again, kept) {
		t.Errorf("the bills are kept: %v", again)
	}
	pairs, _ := purse.Agree(q.a, q.b, q.near)
	spoil(pairs, api.PursePair{A: -9, B: -9})
	if many, _ := audit(t, q.a, q.b, q.near); many != 2 {
		t.Errorf("the pairs are kept: %d", many)
	}
	if !slices.Equal(q.account.Debts, []int{500, 1000, 200}) {
		t.Errorf("the debts share memory with what is paid: %v", q.account.Debts)
	}
}

// P2

func TestSameArgumentsSameResults(t *testing.T) {
	d := &dice{12}
	results := func(q question) string {
		n, _ := purse.Advance(q.r, q.lot)
		bills, _ := purse.Settle(q.r, q.l, q.grades)
		sure, _ := purse.Sure(q.r, q.l, q.family)
		paid, cash, _ := purse.Pay(q.account, q.income)
		income, e := purse.Enough(q.account, q.many)
		barrels, f := purse.Divide(q.quota, q.villages)
		pairs, cover := audit(t, q.a, q.b, q.near) // any pairs will do, but as many
		inA, inB, _ := purse.Open(q.a, q.b, q.near)
		return fmt.Sprint(n, bills, sure, paid, cash, income, e, barrels, f, pairs, cover, inA, inB)
	}
	for range 300 {
		q, other := d.question(), d.question()
		first := results(q)
		results(other)
		if again := results(q); again != first {
			t.Fatalf("%v, and then %v", first, again)
		}
	}
}

// question throws one to which all answers are OK or ErrNone.
func (d *dice) question() question {
	r := d.rates(100000)
	q := question{
		r: r, lot: d.lots(r, 1, 1000000, 9)[0], l: d.lots(r, d.upTo(32), 1000000, 9), family: d.upTo(7),
		account: d.account(1000000000), income: d.upTo(1000000000),
		quota: d.upTo(2000), villages: d.villages(1000000, 2000),
		a: d.book(d.upTo(16), 40, 1, 100), b: d.book(d.upTo(16), 40, 1, 100), near: near(d.upTo(30), d.upTo(100)),
	}
	q.grades, q.many = d.truth(q.l), d.upTo(len(q.account.Debts))
	return q
}

// R3

func TestNilAndEmpty(t *testing.T) {
	for _, empty := range []bool{false, true} {
		var q question
		q.r, q.lot, q.villages = prices(500, 7), lot(0, 9, 0, 1), []api.PurseVillage{village(1, 0, 5)}
		if empty {
			q.l, q.grades, q.account.Debts, q.a, q.b = []api.PurseLot{}, []int{}, []int{}, []api.PurseEntry{}, []api.PurseEntry{}
		}
		expect(t, q, api.OK, names...)
		if bills, e := purse.Settle(q.r, q.l, q.grades); len(bills) != 0 || e != api.OK {
			t.Errorf("no lots: %v, %d", bills, e)
		}
		if paid, cash, e := purse.Pay(q.account, 5); len(paid) != 0 || cash != 5 || e != api.OK {
			t.Errorf("no debts: %v, %d, %d", paid, cash, e)
		}
		if inA, inB, e := purse.Open(bookA(), q.b, near(0, 0)); !slices.Equal(inA, []int{0, 1, 2}) || len(inB) != 0 || e != api.OK {
			t.Errorf("an empty book: %v, %v, %d", inA, inB, e)
		}
		if pairs, cover := audit(t, q.a, q.b, q.near); pairs != 0 || cover != 0 {
			t.Errorf("two empty books: %d, %d", pairs, cover)
		}
		q.r.Prices, q.villages = nil, nil
		if empty {
			q.r.Prices, q.villages = []int{}, []api.PurseVillage{}
		}
		expect(t, q, api.ErrPurseRates, "Check", "Advance", "Settle", "Sure")
		expect(t, q, api.ErrPurseVillage, "Divide")
	}
}

// P1

func TestGreatestArguments(t *testing.T) {
	q := question{
		r: prices(1000, slices.Repeat([]int{100000}, 8)...), lot: lot(7, 1000000, 0, 8), l: slices.Repeat([]api.PurseLot{lot(7, 1000000, 0, 7)}, 32), grades: slices.Repeat([]int{7}, 32), family: 7,
		account: debts(1000, slices.Repeat([]int{1000000000}, 5)...), income: 1000000000, many: 5,
		quota: 2000, villages: slices.Repeat([]api.PurseVillage{village(1000000, 0, 2000)}, 8),
		a: slices.Repeat([]api.PurseEntry{entry(36500, 7, 1000000)}, 16), b: slices.Repeat([]api.PurseEntry{entry(36500, 7, 1000000)}, 16), near: near(30, 1000000),
	}
	for i, e := range q.answers() {
		if want := []api.Errno{5: api.ErrNone, 9: api.OK}[i]; e != want {
			t.Errorf("%s: %d", names[i], e)
		}
	}
	bills, _ := purse.Settle(q.r, q.l, q.grades)
	if !slices.Equal(bills, slices.Repeat([]api.PurseBill{{Advance: 100000000}}, 32)) {
		t.Errorf("the bills: %v", bills)
	}
	if s, _ := purse.Sure(q.r, q.l, 7); s != span(3200000000, 3200000000) {
		t.Errorf("sure are %v", s)
	}
	if paid, cash, _ := purse.Pay(q.account, q.income); !slices.Equal(paid, make([]int, 5)) || cash != 1000000000 {
		t.Errorf("paid are %v, %d", paid, cash)
	}
	if pairs, cover := audit(t, q.a, q.b, q.near); pairs != 16 || cover != 16 {
		t.Errorf("%d pairs, a cover of %d", pairs, cover)
	}
}

func TestAnyQuestion(t *testing.T) {
	d := &dice{13}
	for range 2000 {
		q := d.question()
		for i, e := range q.answers() {
			if e != api.OK && (e != api.ErrNone || names[i] != "Enough" && names[i] != "Divide") {
				t.Fatalf("%s: %+v: %d", names[i], q, e)
			}
		}
	}
	for range 5000 {
		n := func() int { return append(odd, 0, 1, 2, 3, 1000, 2001)[d.upTo(len(odd)+5)] }
		lots := []api.PurseLot{lot(n(), n(), n(), n()), lot(n(), n(), n(), n())}
		q := question{prices(n(), n(), n()), lots[0], lots, []int{n(), n()}, n(), debts(n(), n(), n()), n(), n(), n(), []api.PurseVillage{village(n(), n(), n()), village(n(), n(), n())}, []api.PurseEntry{entry(n(), n(), n())}, []api.PurseEntry{entry(n(), n(), n())}, near(n(), n())}
		if slices.Contains(q.answers(), -1) {
			t.Fatalf("%+v: %v", q, q.answers())
		}
	}
}
