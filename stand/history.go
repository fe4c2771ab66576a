package stand

import "pinaster/api"

// openAge is how many days after it was planted a tree can be opened.
const openAge = 1000

// change is an act, with how its tree is before, and how it is then.
type change struct {
	act  [2]int
	then int
}

var changes = [...]change{
	{[2]int{api.TreePlant, api.TreeNone}, api.TreeGrows},
	{[2]int{api.TreeOpen, api.TreeGrows}, api.TreeTapped},
	{[2]int{api.TreeOpen, api.TreeTapped}, api.TreeTapped},
	{[2]int{api.TreeOpen, api.TreeResting}, api.TreeTapped},
	{[2]int{api.TreeRest, api.TreeTapped}, api.TreeResting},
	{[2]int{api.TreeDie, api.TreeGrows}, api.TreeDead},
	{[2]int{api.TreeDie, api.TreeTapped}, api.TreeDead},
	{[2]int{api.TreeDie, api.TreeResting}, api.TreeDead},
	{[2]int{api.TreeFell, api.TreeGrows}, api.TreeNone},
	{[2]int{api.TreeFell, api.TreeTapped}, api.TreeNone},
	{[2]int{api.TreeFell, api.TreeResting}, api.TreeNone},
	{[2]int{api.TreeFell, api.TreeDead}, api.TreeNone},
}

// life is how a tree is, and the day of its last planting.
type life struct {
	state, planted int
}

// Follow follows a history.
func Follow(l []api.TreeAct) (tags []string, states []int, at int, e api.Errno) {
	if len(l) > api.StandActs {
		return nil, nil, 0, api.ErrLimit
	}
	lives := map[string]life{}
	today := 0
	for i, act := range l {
		if !isFrom(act.Day, today, api.MaxDay) || !IsWord(act.Tag) {
			return nil, nil, i, api.ErrTreeAct
		}
		before, known := lives[act.Tag]
		then, can := before.after(act)
		if !can {
			return nil, nil, i, api.ErrTreeAct
		}
		if !known {
			tags = append(tags, act.Tag)
		}
		lives[act.Tag] = then
		today = act.Day
	}
	for _, tag := range tags {
		states = append(states, lives[tag].state)
	}
	return tags, states, len(l), api.OK
}

// after returns the life of a tree after an act, and whether the act can be.
func (b life) after(act api.TreeAct) (then life, can bool) {
	if act.What == api.TreeOpen && act.Day-b.planted < openAge {
		return life{}, false
	}
	planted := b.planted
	if act.What == api.TreePlant {
		planted = act.Day
	}
	key := [2]int{act.What, b.state}
	for _, c := range changes {
		if c.act == key {
			return life{c.then, planted}, true
		}
	}
	return life{}, false
}
