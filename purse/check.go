// Package purse is the money of a resin works: what lots bring in advance and in the end, which debts an income pays, how a quota is divided among villages, and how far two books agree.
package purse

import "pinaster/api"

// Check checks rates.
func Check(r api.PurseRates) api.Errno {
	if !isFrom(len(r.Prices), 1, api.PurseGrades) || !isFrom(r.Part, 0, api.PurseWhole) {
		return api.ErrPurseRates
	}
	dearest := api.PursePrice
	for _, price := range r.Prices {
		if !isFrom(price, 0, dearest) {
			return api.ErrPurseRates
		}
		dearest = price
	}
	return api.OK
}

func checkLots(r api.PurseRates, l ...api.PurseLot) api.Errno {
	if len(l) > api.PurseLots {
		return api.ErrPurseLot
	}
	for _, x := range l {
		if checkFamily(x.Family) != api.OK || !isFrom(x.Grams, 0, api.PurseGrams) || !isGrade(r, x.Grade) {
			return api.ErrPurseLot
		}
	}
	return api.OK
}

// isGrade reports whether grades with rates may lie in a span.
func isGrade(r api.PurseRates, s api.Span) bool {
	return s.Low >= 0 && s.Low <= s.High && s.High <= len(r.Prices)
}

func checkFamily(family int) api.Errno {
	if !isFamily(family) {
		return api.ErrPurseLot
	}
	return api.OK
}

func isFamily(family int) bool { return isFrom(family, 0, api.PurseFamilies-1) }

func checkTruth(l []api.PurseLot, grades []int) api.Errno {
	if len(grades) != len(l) {
		return api.ErrPurseTruth
	}
	for i, x := range l {
		if !isFrom(grades[i], x.Grade.Low, x.Grade.High) {
			return api.ErrPurseTruth
		}
	}
	return api.OK
}

func checkAccount(a api.PurseAccount) api.Errno {
	if !isFrom(a.Keep, 0, api.PurseWhole) || len(a.Debts) > api.PurseDebts {
		return api.ErrPurseAccount
	}
	for _, debt := range a.Debts {
		if !isFrom(debt, 0, api.PurseMoney) {
			return api.ErrPurseAccount
		}
	}
	return api.OK
}

func checkVillages(l []api.PurseVillage) api.Errno {
	if !isFrom(len(l), 1, api.PurseVillages) {
		return api.ErrPurseVillage
	}
	for _, v := range l {
		if !isFrom(v.Claim, 1, api.PurseClaim) || !isFrom(v.Cap, 0, api.PurseBarrels) || !isFrom(v.Floor, 0, v.Cap) {
			return api.ErrPurseVillage
		}
	}
	return api.OK
}

func checkBooks(books ...[]api.PurseEntry) api.Errno {
	for _, book := range books {
		if !isBook(book) {
			return api.ErrPurseBook
		}
	}
	return api.OK
}

func isBook(book []api.PurseEntry) bool {
	if len(book) > api.PurseEntries {
		return false
	}
	for _, x := range book {
		if !isFrom(x.Day, 0, api.MaxDay) || !isFamily(x.Family) || !isFrom(x.Grams, 0, api.PurseGrams) {
			return false
		}
	}
	return true
}

func checkNear(n api.PurseNear) api.Errno {
	if !isFrom(n.Days, 0, api.PurseDays) || !isFrom(n.Grams, 0, api.PurseGrams) {
		return api.ErrRange
	}
	return api.OK
}

func checkRange(n, least, most int) api.Errno {
	if !isFrom(n, least, most) {
		return api.ErrRange
	}
	return api.OK
}

func isFrom(n, least, most int) bool { return n >= least && n <= most }
