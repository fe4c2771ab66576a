package purse_test

import (
	"slices"
	"testing"

	"pinaster/api"
	"pinaster/purse"
)

// P8.3

func TestPay(t *testing.T) {
	great := debts(0, 1000000000, 1000000000)
	for i, x := range []struct {
		a      api.PurseAccount
		income int
		paid   []int
		cash   int
	}{
		{account(), 1500, []int{500, 550, 0}, 450}, {account(), 3000, []int{500, 1000, 200}, 1300}, {account(), 0, []int{0, 0, 0}, 0}, {account(), 714, []int{499, 0, 0}, 215}, {account(), 715, []int{500, 0, 0}, 215}, {account(), 716, []int{500, 1, 0}, 215},
		{account(), 2428, []int{500, 1000, 199}, 729}, {account(), 2429, []int{500, 1000, 200}, 729}, {account(), 2430, []int{500, 1000, 200}, 730}, {account(), 1000000000, []int{500, 1000, 200}, 999998300},
		{account(), 1, []int{0, 0, 0}, 1}, {account(), 2, []int{1, 0, 0}, 1}, {account(), 10, []int{7, 0, 0}, 3}, {account(), 11, []int{7, 0, 0}, 4}, // what is kept is rounded up
		{debts(1, 9), 1, []int{0}, 1}, {debts(1, 999), 1000, []int{999}, 1}, {debts(999, 9), 999, []int{0}, 999}, {debts(999, 9), 1000, []int{1}, 999},
		{debts(0, 5, 6), 8, []int{5, 3}, 0}, {debts(0, 5, 6), 12, []int{5, 6}, 1}, {debts(0, 0, 7), 5, []int{0, 5}, 0}, {debts(0, 3, 0, 2), 4, []int{3, 0, 1}, 0}, {debts(1000, 5, 0), 777, []int{0, 0}, 777},
		{debts(0), 5, nil, 5}, {debts(1000), 0, nil, 0}, {debts(0, 1, 1, 1, 1, 1), 4, []int{1, 1, 1, 1, 0}, 0},
		{great, 1000000000, []int{1000000000, 0}, 0}, {great, 999999999, []int{999999999, 0}, 0}, {debts(500, 400000000, 1000000000), 1000000000, []int{400000000, 100000000}, 500000000}, {debts(999, 1000000000), 999999999, []int{999999}, 999000000},
	} {
		if paid, cash, e := purse.Pay(x.a, x.income); !slices.Equal(paid, x.paid) || cash != x.cash || e != api.OK {
			t.Errorf("%d: %v, %d, %d, want %v, %d", i, paid, cash, e, x.paid, x.cash)
		}
	}
}

func TestEnough(t *testing.T) {
	five := debts(0, 1000000000, 1000000000, 1000000000, 1000000000, 1000000000)
	for i, x := range []struct {
		a    api.PurseAccount
		many int
		want int
		e    api.Errno
	}{
		{account(), 0, 0, api.OK}, {account(), 1, 715, api.OK}, {account(), 2, 2143, api.OK}, {account(), 3, 2429, api.OK},
		{debts(0), 0, 0, api.OK}, {debts(1000), 0, 0, api.OK}, {debts(0, 0, 0), 2, 0, api.OK}, {debts(0, 5, 6), 1, 5, api.OK}, {debts(0, 5, 6), 2, 11, api.OK}, {debts(0, 5, 0, 6), 2, 5, api.OK}, {debts(0, 0, 5), 1, 0, api.OK},
		{debts(1000, 5), 0, 0, api.OK}, {debts(1000, 5), 1, 0, api.ErrNone}, {debts(1000, 0), 1, 0, api.OK}, {debts(1000, 0, 1), 1, 0, api.OK}, {debts(1000, 0, 1), 2, 0, api.ErrNone},
		{debts(999, 1), 1, 1000, api.OK}, {debts(1, 1), 1, 2, api.OK}, {debts(1, 999), 1, 1000, api.OK}, {debts(1, 1000), 1, 1002, api.OK}, {debts(999, 1000000), 1, 1000000000, api.OK}, {debts(999, 1000001), 1, 0, api.ErrNone},
		{debts(500, 500000000), 1, 1000000000, api.OK}, {debts(500, 500000001), 1, 0, api.ErrNone}, {debts(500, 499999999), 1, 999999998, api.OK}, {debts(500, 500000001), 0, 0, api.OK},
		{debts(0, 1000000000), 1, 1000000000, api.OK}, {debts(0, 999999999), 1, 999999999, api.OK}, {debts(0, 999999999, 2), 2, 0, api.ErrNone}, {debts(1, 1000000000), 1, 0, api.ErrNone}, {debts(1, 999000000), 1, 1000000000, api.OK}, {debts(1, 999000001), 1, 0, api.ErrNone},
		{five, 1, 1000000000, api.OK}, {five, 2, 0, api.ErrNone}, {five, 5, 0, api.ErrNone},
	} {
		if n, e := purse.Enough(x.a, x.many); n != x.want || e != x.e {
			t.Errorf("%d: %d, %d, want %d, %d", i, n, e, x.want, x.e)
		}
	}
}

func TestPayCentByCent(t *testing.T) {
	d := &dice{4}
	for range 3000 {
		a, income := d.account(300), d.upTo(900)
		want := paidByCents(a, income)
		paid, cash, e := purse.Pay(a, income)
		if !slices.Equal(paid, want) || cash != income-sum(want) || e != api.OK {
			t.Fatalf("%v, %d: %v, %d, %d, want %v", a, income, paid, cash, e, want)
		}
	}
}

func TestEnoughAgainstAllIncomes(t *testing.T) {
	d := &dice{5}
	for range 300 {
		a := d.account(60)
		a.Keep = d.upTo(900)
		for many := range len(a.Debts) + 1 {
			want := 0
			for !isWhollyPaid(a, paidByCents(a, want), many) {
				want++
			}
			if n, e := purse.Enough(a, many); n != want || e != api.OK {
				t.Fatalf("%v, %d: %d, %d, want %d", a, many, n, e, want)
			}
		}
	}
}

// P8.3, P8.8

func TestEnoughPaysAndLessDoesNot(t *testing.T) {
	d := &dice{6}
	some, none := 0, 0
	pays := func(a api.PurseAccount, income, many int) bool {
		paid, _, e := purse.Pay(a, income)
		if e != api.OK {
			t.Fatalf("%v, %d: %d", a, income, e)
		}
		return isWhollyPaid(a, paid, many)
	}
	for range 3000 {
		a := d.account([]int{1000, 1000000, 1000000000}[d.upTo(2)])
		for many := range len(a.Debts) + 1 {
			n, e := purse.Enough(a, many)
			switch {
			case e == api.ErrNone && !pays(a, 1000000000, many):
				none++
			case e == api.OK && pays(a, n, many) && (n == 0 || !pays(a, n-1, many)):
				some++
			default:
				t.Fatalf("%v, %d: %d, %d", a, many, n, e)
			}
		}
	}
	if min(some, none) < 100 {
		t.Errorf("%d are enough, %d are not", some, none)
	}
}

// P8.8

func TestWhatIsPaid(t *testing.T) {
	d := &dice{7}
	for range 3000 {
		most := []int{50, 100000, 1000000000}[d.upTo(2)]
		a, income := d.account(most), d.upTo(most)
		paid, cash, e := purse.Pay(a, income)
		if len(paid) != len(a.Debts) || sum(paid)+cash != income || cash < thousandthUp(income*a.Keep) || e != api.OK {
			t.Fatalf("%v, %d: %v, %d, %d", a, income, paid, cash, e)
		}
		for i, n := range paid {
			if n < 0 || n > a.Debts[i] || n > 0 && !isWhollyPaid(a, paid, i) {
				t.Fatalf("%v, %d: %v", a, income, paid)
			}
		}
		if cash > thousandthUp(income*a.Keep) && !isWhollyPaid(a, paid, len(paid)) {
			t.Fatalf("%v, %d: %v, but the cash is %d", a, income, paid, cash)
		}
		greater := min(1000000000, income+d.upTo(3))
		more, rest, e := purse.Pay(a, greater)
		if rest < cash || e != api.OK {
			t.Fatalf("%v: the cash of %d is %d, that of %d is %d", a, income, cash, greater, rest)
		}
		for i := range paid {
			if more[i] < paid[i] {
				t.Fatalf("%v: %d pays %v, %d pays %v", a, income, paid, greater, more)
			}
		}
	}
}
