package purse_test

import (
	"slices"
	"testing"

	"pinaster/api"
	"pinaster/purse"
)

// P8.2

func TestAdvance(t *testing.T) {
	for i, x := range []struct {
		r    api.PurseRates
		l    api.PurseLot
		want int
	}{
		{rates(), lot(0, 5000, 0, 1), 2100}, {rates(), lot(0, 5000, 0, 0), 2700}, {rates(), lot(0, 5000, 0, 2), 900}, {rates(), lot(0, 5000, 0, 3), 0}, {rates(), lot(0, 5000, 3, 3), 0}, {rates(), lot(7, 5000, 1, 1), 2100}, {rates(), lot(0, 0, 0, 0), 0},
		{rates(), lot(0, 333, 0, 2), 59}, {rates(), lot(0, 1, 0, 0), 0}, {rates(), lot(0, 2, 0, 0), 0}, {rates(), lot(0, 4, 0, 0), 1},
		{prices(1000, 1), lot(0, 999, 0, 0), 0}, {prices(1000, 1), lot(0, 1000, 0, 0), 1}, {prices(999, 1), lot(0, 1000, 0, 0), 0}, {prices(0, 900), lot(0, 5000, 0, 0), 0}, {prices(1000, 900), lot(0, 5000, 0, 0), 4500},
		{prices(999, 1), lot(0, 1999, 0, 0), 0}, {prices(500, 1), lot(0, 3999, 0, 0), 1}, {prices(500, 3), lot(0, 1999, 0, 0), 2}, // the worth is rounded down, too
		{prices(1000, 100000), lot(0, 1000000, 0, 0), 100000000}, {prices(999, 100000), lot(0, 1000000, 0, 0), 99900000}, {prices(1000, 100000, 99999), lot(0, 999999, 0, 1), 99998900},
	} {
		if n, e := purse.Advance(x.r, x.l); n != x.want || e != api.OK {
			t.Errorf("%d: %d, %d, want %d", i, n, e, x.want)
		}
	}
}

func TestSettle(t *testing.T) {
	l := []api.PurseLot{lot(0, 5000, 0, 1), lot(3, 333, 0, 3), lot(0, 1999, 1, 2)}
	for i, x := range []struct {
		r      api.PurseRates
		l      []api.PurseLot
		grades []int
		want   []api.PurseBill
	}{
		{rates(), l[:1], []int{0}, []api.PurseBill{{Advance: 2100, Rest: 2400}}}, {rates(), l[:1], []int{1}, []api.PurseBill{{Advance: 2100, Rest: 1400}}},
		{rates(), l[1:2], []int{3}, []api.PurseBill{{}}}, {rates(), l[1:2], []int{2}, []api.PurseBill{{Rest: 99}}}, {rates(), l[1:2], []int{0}, []api.PurseBill{{Rest: 299}}},
		{rates(), l, []int{0, 1, 1}, []api.PurseBill{{Advance: 2100, Rest: 2400}, {Rest: 233}, {Advance: 359, Rest: 1040}}}, {rates(), l, []int{1, 3, 2}, []api.PurseBill{{Advance: 2100, Rest: 1400}, {}, {Advance: 359, Rest: 240}}},
		{prices(1000, 7), []api.PurseLot{lot(0, 1000, 0, 0), lot(0, 1000, 0, 1)}, []int{0, 0}, []api.PurseBill{{Advance: 7}, {Rest: 7}}}, {prices(0, 7), []api.PurseLot{lot(0, 1000, 0, 0), lot(0, 1000, 0, 1)}, []int{0, 1}, []api.PurseBill{{Rest: 7}, {}}},
		{rates(), nil, nil, nil}, {prices(0, 100000), []api.PurseLot{lot(7, 1000000, 0, 1)}, []int{0}, []api.PurseBill{{Rest: 100000000}}},
	} {
		if bills, e := purse.Settle(x.r, x.l, x.grades); !slices.Equal(bills, x.want) || e != api.OK {
			t.Errorf("%d: %v, %d, want %v", i, bills, e, x.want)
		}
	}
}

func TestSure(t *testing.T) {
	l := []api.PurseLot{lot(0, 5000, 0, 1), lot(3, 333, 0, 3), lot(0, 1999, 1, 2), lot(7, 1000000, 3, 3), lot(3, 333, 0, 2)}
	whole := slices.Repeat([]api.PurseLot{lot(5, 1000000, 0, 1)}, 32)
	for i, x := range []struct {
		r      api.PurseRates
		l      []api.PurseLot
		family int
		want   api.Span
	}{
		{rates(), l[:1], 0, span(3500, 4500)}, {rates(), l[:1], 1, span(0, 0)}, {rates(), l, 0, span(4099, 5899)}, {rates(), l, 3, span(99, 598)}, {rates(), l, 7, span(0, 0)}, {rates(), l, 5, span(0, 0)}, {rates(), nil, 0, span(0, 0)},
		{prices(0, 900, 700, 300), l, 0, span(4099, 5899)}, {prices(1000, 900, 700, 300), l, 3, span(99, 598)}, // whatever the part is
		{prices(1, 1), slices.Repeat([]api.PurseLot{lot(0, 999, 0, 0)}, 32), 0, span(0, 0)}, {prices(1, 1), slices.Repeat([]api.PurseLot{lot(0, 1999, 0, 0)}, 32), 0, span(32, 32)}, // each lot is rounded down
		{prices(1, 100000), whole, 5, span(0, 3200000000)}, {prices(1, 100000, 100000), whole, 5, span(3200000000, 3200000000)}, {prices(1, 100000), whole, 4, span(0, 0)},
	} {
		if s, e := purse.Sure(x.r, x.l, x.family); s != x.want || e != api.OK {
			t.Errorf("%d: %v, %d, want %v", i, s, e, x.want)
		}
	}
}

func TestBillsAgainstSearchedNumbers(t *testing.T) {
	d := &dice{1}
	for range 3000 {
		r := d.rates([]int{3, 1000, 100000}[d.upTo(2)])
		l := d.lots(r, d.upTo(32), []int{5000, 1000000}[d.upTo(1)], 9)
		grades := d.truth(l)
		bills, e := purse.Settle(r, l, grades)
		if len(bills) != len(l) || e != api.OK {
			t.Fatalf("%v, %v, %v: %v, %d", r, l, grades, bills, e)
		}
		for i, x := range l {
			want := api.PurseBill{Advance: advance(r, x), Rest: worth(r, x, grades[i]) - advance(r, x)}
			n, e := purse.Advance(r, x)
			if bills[i] != want || n != want.Advance || e != api.OK {
				t.Fatalf("%v, %v, %d: %v, %d, %d, want %v", r, x, grades[i], bills[i], n, e, want)
			}
		}
	}
}

// families returns what each family gets for its lots.
func families(l []api.PurseLot, bills []api.PurseBill) [8]int {
	var gets [8]int
	for i, x := range l {
		gets[x.Family] += bills[i].Advance + bills[i].Rest
	}
	return gets
}

func worths(r api.PurseRates, l []api.PurseLot, grades []int) [8]int {
	var all [8]int
	for i, x := range l {
		all[x.Family] += worth(r, x, grades[i])
	}
	return all
}

func TestSureAgainstAllTruths(t *testing.T) {
	d := &dice{2}
	for range 400 {
		r := d.rates([]int{9, 100000}[d.upTo(1)])
		l := d.lots(r, d.upTo(6), []int{2000, 1000000}[d.upTo(1)], 3)
		low, high := [8]int{}, [8]int{}
		for i, grades := range truths(l) {
			for family, n := range worths(r, l, grades) {
				if i == 0 {
					low[family] = n
				}
				low[family], high[family] = min(low[family], n), max(high[family], n)
			}
		}
		for family := range 8 {
			if s, e := purse.Sure(r, l, family); s != span(low[family], high[family]) || e != api.OK {
				t.Fatalf("%v, %v, %d: %v, %d, want %d to %d", r, l, family, s, e, low[family], high[family])
			}
		}
	}
}

// P8.7

func TestWhateverTheGradesAre(t *testing.T) {
	d := &dice{3}
	check := func(r api.PurseRates, l []api.PurseLot, grades []int) [8]int {
		bills, e := purse.Settle(r, l, grades)
		if len(bills) != len(l) || e != api.OK {
			t.Fatalf("%v, %v, %v: %v, %d", r, l, grades, bills, e)
		}
		for i, b := range bills {
			if b.Advance < 0 || b.Rest < 0 || b.Advance+b.Rest != worth(r, l[i], grades[i]) {
				t.Fatalf("%v, %v, %d: %v", r, l[i], grades[i], b)
			}
		}
		return families(l, bills)
	}
	for range 500 {
		r := d.rates(100000)
		l := d.lots(r, d.upTo(32), 1000000, 9)
		first, last := endsOf(l)
		best, worst, some := check(r, l, first), check(r, l, last), check(r, l, d.truth(l))
		for family := range 8 {
			s, e := purse.Sure(r, l, family)
			if s != span(worst[family], best[family]) || some[family] < s.Low || some[family] > s.High || e != api.OK {
				t.Fatalf("%v, %v, %d: %v, %d, but it gets %d, %d and %d", r, l, family, s, e, worst[family], some[family], best[family])
			}
		}
	}
}
