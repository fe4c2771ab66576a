// Package stand knows the trees of a stand: their growth, the faces that they may have, thinning, histories, and texts.
package stand

import "pinaster/api"

// Limits that api does not name.
const (
	mostPress = 100    // the most that a neighbour takes of a year's growth, in millimetres
	mostApart = 100000 // the greatest distance that is asked for, in decimetres
)

// IsWord reports whether a text is a word.
func IsWord(s string) bool {
	if len(s) < 1 || len(s) > api.MaxWord || !isLetter(s[0]) {
		return false
	}
	for i := range len(s) {
		if !isLetter(s[i]) && !isDigit(s[i]) && s[i] != '-' {
			return false
		}
	}
	return true
}

func isLetter(b byte) bool { return b >= 'a' && b <= 'z' }

func isDigit(b byte) bool { return b >= '0' && b <= '9' }

// Check checks a stand.
func Check(s api.Stand) api.Errno {
	if len(s.Trees) > api.StandTrees || !isSpan(s.Grow, 0, api.StandGrow) ||
		!isFrom(s.Press, 0, mostPress) || !isFrom(s.Near, 0, mostApart) {
		return api.ErrStand
	}
	for i, t := range s.Trees {
		if !isTree(t) || clashes(t, s.Trees[:i]) {
			return api.ErrStand
		}
	}
	return api.OK
}

// CheckRule checks a rule.
func CheckRule(r api.StandRule) api.Errno {
	if !isFrom(r.Crown, 0, api.StandCrown) {
		return api.ErrStandRule
	}
	least := 1
	for _, girth := range r.Girth {
		if !isFrom(girth, least, api.StandGirth) {
			return api.ErrStandRule
		}
		least = girth + 1
	}
	return api.OK
}

func isTree(t api.Tree) bool {
	return IsWord(t.Tag) && isFrom(t.X, 0, api.StandPlace) && isFrom(t.Y, 0, api.StandPlace) &&
		isSpan(t.Girth, 1, api.StandGirth) && isFrom(t.Crown, 0, api.StandCrown)
}

// clashes reports whether a tree has the tag or the place of another one.
func clashes(t api.Tree, others []api.Tree) bool {
	for _, o := range others {
		if o.Tag == t.Tag || o.X == t.X && o.Y == t.Y {
			return true
		}
	}
	return false
}

func checkTree(s api.Stand, tree int) api.Errno {
	if !isFrom(tree, 0, len(s.Trees)-1) {
		return api.ErrTree
	}
	return api.OK
}

func checkRange(n, least, most int) api.Errno {
	if !isFrom(n, least, most) {
		return api.ErrRange
	}
	return api.OK
}

func isFrom(n, least, most int) bool { return n >= least && n <= most }

func isSpan(s api.Span, least, most int) bool {
	return s.Low >= least && s.High <= most && s.Low <= s.High
}
