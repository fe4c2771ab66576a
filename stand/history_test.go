package stand_test

import (
	"math"
	"slices"
	"strconv"
	"testing"

	"pinaster/api"
	"pinaster/stand"
)

func act(day int, tag string, what int) api.TreeAct {
	return api.TreeAct{Day: day, Tag: tag, What: what}
}

// follows checks a history.
func follows(t *testing.T, l []api.TreeAct, tags []string, states []int) {
	t.Helper()
	gotTags, gotStates, at, e := stand.Follow(l)
	if !slices.Equal(gotTags, tags) || !slices.Equal(gotStates, states) || at != len(l) || e != api.OK {
		t.Errorf("%v: %v, %v, %d, %d, want %v, %v", l, gotTags, gotStates, at, e, tags, states)
	}
}

// fails checks a list that is no history.
func fails(t *testing.T, l []api.TreeAct, at int, e api.Errno) {
	t.Helper()
	tags, states, gotAt, gotE := stand.Follow(l)
	if len(tags) != 0 || len(states) != 0 || gotAt != at || gotE != e {
		t.Errorf("%v: %v, %v, %d, %d, want %d, %d", l, tags, states, gotAt, gotE, at, e)
	}
}

// P1.5

func TestFollowExamples(t *testing.T) {
	follows(t, []api.TreeAct{act(0, "x", 1), act(1000, "x", 2), act(1200, "x", 3), act(1500, "x", 5), act(1500, "x", 1)}, []string{"x"}, []int{1})
	fails(t, []api.TreeAct{act(0, "x", 1), act(999, "x", 2)}, 1, api.ErrTreeAct)
	follows(t, nil, nil, nil)
	follows(t, []api.TreeAct{}, nil, nil)
}

// pathTo leads a tree x from none to a state, by acts that can be.
func pathTo(state int) []api.TreeAct {
	switch state {
	case api.TreeGrows:
		return []api.TreeAct{act(0, "x", 1)}
	case api.TreeTapped:
		return []api.TreeAct{act(0, "x", 1), act(1000, "x", 2)}
	case api.TreeResting:
		return []api.TreeAct{act(0, "x", 1), act(1000, "x", 2), act(1000, "x", 3)}
	case api.TreeDead:
		return []api.TreeAct{act(0, "x", 1), act(0, "x", 4)}
	}
	return nil
}

func TestFollowTable(t *testing.T) {
	const no = -1
	table := map[int][5]int{ // how it is then, by how it is before
		0: {no, no, no, no, no},
		1: {1, no, no, no, no},
		2: {no, 2, 2, 2, no},
		3: {no, no, 3, no, no},
		4: {no, 4, 4, 4, no},
		5: {no, 0, 0, 0, 0},
		6: {no, no, no, no, no},
	}
	for _, what := range odd {
		table[what] = [5]int{no, no, no, no, no}
	}
	for what, then := range table {
		for before, want := range then {
			l := append(pathTo(before), act(2000, "x", what))
			if want == no {
				fails(t, l, len(l)-1, api.ErrTreeAct)
			} else {
				follows(t, l, []string{"x"}, []int{want})
			}
		}
	}
	// a tree that was felled is none again
	for what := 2; what <= 5; what++ {
		fails(t, []api.TreeAct{act(0, "x", 1), act(0, "x", 5), act(5000, "x", what)}, 2, api.ErrTreeAct)
	}
}

func TestFollowAge(t *testing.T) {
	for _, planted := range []int{0, 1, 777, 35500} {
		follows(t, []api.TreeAct{act(planted, "x", 1), act(planted+1000, "x", 2)}, []string{"x"}, []int{2})
		for _, days := range []int{0, 1, 500, 999} {
			fails(t, []api.TreeAct{act(planted, "x", 1), act(planted+days, "x", 2)}, 1, api.ErrTreeAct)
		}
	}
	// the last planting counts
	again := []api.TreeAct{act(0, "x", 1), act(2000, "x", 5), act(2000, "x", 1)}
	fails(t, append(slices.Clone(again), act(2999, "x", 2)), 3, api.ErrTreeAct)
	follows(t, append(slices.Clone(again), act(3000, "x", 2)), []string{"x"}, []int{2})
	// that of the tag, not that of another one
	two := []api.TreeAct{act(0, "x", 1), act(900, "y", 1), act(1000, "x", 2)}
	follows(t, two, []string{"x", "y"}, []int{2, 1})
	fails(t, append(slices.Clone(two), act(1899, "y", 2)), 3, api.ErrTreeAct)
	follows(t, append(slices.Clone(two), act(1900, "y", 2)), []string{"x", "y"}, []int{2, 2})
	// other acts need no age, and set none back
	follows(t, []api.TreeAct{act(5, "x", 1), act(1005, "x", 2), act(1005, "x", 2), act(1006, "x", 3), act(1006, "x", 2)}, []string{"x"}, []int{2})
}

func TestFollowTags(t *testing.T) {
	follows(t, []api.TreeAct{act(1, "q", 1), act(2, "p", 1), act(3, "z", 1), act(4, "a", 1), act(5, "q", 5), act(6, "z", 4), act(7, "q", 1), act(7, "p", 5)},
		[]string{"q", "p", "z", "a"}, []int{1, 0, 4, 1})
	follows(t, []api.TreeAct{act(0, "abcdefghijklmnop", 1)}, []string{"abcdefghijklmnop"}, []int{1})
}

func TestFollowWrongActs(t *testing.T) {
	good := []api.TreeAct{act(5, "x", 1), act(5, "y", 1)}
	for _, wrong := range []api.TreeAct{
		act(4, "z", 1), act(0, "z", 1), act(-1, "z", 1), act(math.MinInt, "z", 1), act(36501, "z", 1), act(math.MaxInt, "z", 1),
		act(math.MinInt, "x", 2), act(math.MaxInt, "x", 2),
		act(6, "", 1), act(6, "Z", 1), act(6, "1", 1), act(6, "-z", 1), act(6, "z z", 1), act(6, "abcdefghijklmnopq", 1),
		act(6, "z", 0), act(6, "z", 6), act(6, "z", -1), act(6, "x", 0), act(6, "x", 6),
	} {
		fails(t, append(slices.Clone(good), wrong), 2, api.ErrTreeAct)
		// the first one counts, whatever comes behind it
		fails(t, append(slices.Clone(good), wrong, act(7, "z", 1), act(6, "Z", 9)), 2, api.ErrTreeAct)
	}
	for _, first := range []api.TreeAct{act(-1, "x", 1), act(36501, "x", 1), act(0, "X", 1), act(0, "x", 2), act(0, "x", 6)} {
		fails(t, []api.TreeAct{first, act(0, "y", 1)}, 0, api.ErrTreeAct)
	}
	follows(t, []api.TreeAct{act(0, "x", 1), act(36500, "x", 5)}, []string{"x"}, []int{0})
	// an act that cannot be is not passed over for a wrong one, nor a wrong one for it
	fails(t, []api.TreeAct{act(5, "x", 1), act(5, "x", 1), act(4, "y", 1)}, 1, api.ErrTreeAct)
	fails(t, []api.TreeAct{act(5, "x", 1), act(4, "y", 1), act(5, "x", 1)}, 1, api.ErrTreeAct)
}

func TestFollowLimit(t *testing.T) {
	var l []api.TreeAct
	var tags []string
	var states []int
	for i := range 256 {
		tag := "t" + strconv.Itoa(i)
		l, tags, states = append(l, act(i, tag, 1)), append(tags, tag), append(states, 1)
	}
	follows(t, l, tags, states)
	fails(t, append(slices.Clone(l), act(256, "last", 1)), 0, api.ErrLimit)
	fails(t, append(slices.Clone(l), act(0, "LAST", 9)), 0, api.ErrLimit)
	wrong := slices.Clone(l)
	wrong[255].What = 2
	fails(t, wrong, 255, api.ErrTreeAct)
	fails(t, make([]api.TreeAct, 257), 0, api.ErrLimit)
	fails(t, make([]api.TreeAct, 256), 0, api.ErrTreeAct)
	fails(t, make([]api.TreeAct, 5000), 0, api.ErrLimit)
}

// P1.11

// books follow acts in their own way, one at a time.
type books struct {
	tags           []string
	state, planted map[string]int
	day            int
}

// takes reports whether an act can be, and does it then.
func (b *books) takes(a api.TreeAct) bool {
	lives := map[int]bool{api.TreeGrows: true, api.TreeTapped: true, api.TreeResting: true}
	is := b.state[a.Tag]
	can := map[int]bool{
		api.TreePlant: is == api.TreeNone,
		api.TreeOpen:  lives[is] && a.Day-b.planted[a.Tag] >= 1000,
		api.TreeRest:  is == api.TreeTapped,
		api.TreeDie:   lives[is],
		api.TreeFell:  is != api.TreeNone,
	}
	if a.Day < b.day || a.Day > 36500 || !can[a.What] {
		return false
	}
	if !slices.Contains(b.tags, a.Tag) {
		b.tags = append(b.tags, a.Tag)
	}
	if a.What == api.TreePlant {
		b.planted[a.Tag] = a.Day
	}
	b.day = a.Day
	b.state[a.Tag] = map[int]int{api.TreePlant: api.TreeGrows, api.TreeOpen: api.TreeTapped, api.TreeRest: api.TreeResting, api.TreeDie: api.TreeDead, api.TreeFell: api.TreeNone}[a.What]
	return true
}

func (b *books) states() []int {
	var l []int
	for _, tag := range b.tags {
		l = append(l, b.state[tag])
	}
	return l
}

func TestFollowAtEachPlace(t *testing.T) {
	d := &dice{6}
	for range 40 {
		b := &books{state: map[string]int{}, planted: map[string]int{}}
		var l []api.TreeAct
		for range 250 {
			a := act(b.day+d.upTo(3)*d.upTo(260)-d.upTo(1), string(rune('a'+d.upTo(4))), d.upTo(6))
			if b.takes(a) {
				l = append(l, a)
				follows(t, l, b.tags, b.states())
			} else {
				fails(t, append(slices.Clone(l), a), len(l), api.ErrTreeAct)
			}
		}
		for n := range l {
			if _, _, at, e := stand.Follow(l[:n]); at != n || e != api.OK {
				t.Fatalf("the first %d of %v: %d, %d", n, l, at, e)
			}
		}
	}
}

func TestFollowPlantsAgain(t *testing.T) {
	for state := api.TreeGrows; state <= api.TreeDead; state++ {
		l := append(pathTo(state), act(1000, "x", 5))
		follows(t, l, []string{"x"}, []int{api.TreeNone})
		for range 3 {
			l = append(l, act(1000, "x", 1))
			follows(t, l, []string{"x"}, []int{api.TreeGrows})
			l = append(l, act(1000, "x", 5))
			follows(t, l, []string{"x"}, []int{api.TreeNone})
		}
	}
}
