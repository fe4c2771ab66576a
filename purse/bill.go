package purse

import (
	"cmp"

	"pinaster/api"
)

// kilogram is one in grams.
const kilogram = 1000

// rates are those that lots are paid by.
type rates struct{ api.PurseRates }

// Advance returns the advance of a lot.
func Advance(r api.PurseRates, l api.PurseLot) (int, api.Errno) {
	if e := cmp.Or(Check(r), checkLots(r, l)); e != api.OK {
		return 0, e
	}
	return rates{r}.advance(l), api.OK
}

// Settle returns the bills of lots, with a truth.
func Settle(r api.PurseRates, l []api.PurseLot, grades []int) ([]api.PurseBill, api.Errno) {
	if e := cmp.Or(Check(r), checkLots(r, l...), checkTruth(l, grades)); e != api.OK {
		return nil, e
	}
	var bills []api.PurseBill
	for i, x := range l {
		bills = append(bills, rates{r}.bill(x, grades[i]))
	}
	return bills, api.OK
}

// Sure returns between what lies what a family gets. It uses that no price is greater than the one before it: a lot is worth least by the last grade that it may have.
func Sure(r api.PurseRates, l []api.PurseLot, family int) (api.Span, api.Errno) {
	if e := cmp.Or(Check(r), checkLots(r, l...), checkFamily(family)); e != api.OK {
		return api.Span{}, e
	}
	worst := func(x api.PurseLot) int { return x.Grade.High }
	best := func(x api.PurseLot) int { return x.Grade.Low }
	return api.Span{
		Low:  rates{r}.brings(l, family, worst),
		High: rates{r}.brings(l, family, best),
	}, api.OK
}

// brings returns what lots bring a family, each by one of its grades.
func (r rates) brings(l []api.PurseLot, family int, grade func(api.PurseLot) int) int {
	var amounts []int
	for _, x := range l {
		if bill := r.billTo(family, x, grade(x)); bill != (api.PurseBill{}) {
			amounts = append(amounts, bill.Advance, bill.Rest)
		}
	}
	return sum(amounts...)
}

// billTo returns the bill of a lot for a family: none, if another one brought the lot.
func (r rates) billTo(family int, l api.PurseLot, grade int) api.PurseBill {
	if l.Family != family {
		return api.PurseBill{}
	}
	return r.bill(l, grade)
}

func (r rates) bill(l api.PurseLot, grade int) api.PurseBill {
	advance := r.advance(l)
	return api.PurseBill{Advance: advance, Rest: r.worth(l, grade) - advance}
}

func (r rates) advance(l api.PurseLot) int {
	return r.worth(l, l.Grade.High) * r.Part / api.PurseWhole
}

func (r rates) worth(l api.PurseLot, grade int) int {
	return l.Grams * r.price(grade) / kilogram
}

func (r rates) price(grade int) int {
	if grade == len(r.Prices) {
		return 0
	}
	return r.Prices[grade]
}

func sum[N ~int | ~int64](numbers ...N) N {
	var all N
	for _, n := range numbers {
		all += n
	}
	return all
}
