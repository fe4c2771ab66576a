package purse

import (
	"cmp"
	"sort"

	"pinaster/api"
)

// account is one that incomes pay.
type account struct{ api.PurseAccount }

// Pay returns what an income pays of each debt, and the cash.
func Pay(a api.PurseAccount, income int) (paid []int, cash int, e api.Errno) {
	if e := cmp.Or(checkAccount(a), checkRange(income, 0, api.PurseMoney)); e != api.OK {
		return nil, 0, e
	}
	paid = account{a}.pay(income)
	return paid, income - sum(paid...), api.OK
}

// Enough returns the least income that pays the first debts.
func Enough(a api.PurseAccount, many int) (int, api.Errno) {
	if e := cmp.Or(checkAccount(a), checkRange(many, 0, len(a.Debts))); e != api.OK {
		return 0, e
	}
	debts := sum(a.Debts[:many]...)
	income := sort.Search(api.PurseMoney+1, func(income int) bool { return account{a}.spare(income) >= debts })
	if income > api.PurseMoney {
		return 0, api.ErrNone
	}
	return income, api.OK
}

func (a account) pay(income int) []int {
	var paid []int
	left := a.spare(income)
	for _, debt := range a.Debts {
		part := min(debt, left)
		paid = append(paid, part)
		left -= part
	}
	return paid
}

// spare returns what of an income may pay debts: as what is kept is rounded up, the other thousandths are rounded down.
func (a account) spare(income int) int {
	return income * (api.PurseWhole - a.Keep) / api.PurseWhole
}
