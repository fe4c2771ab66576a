package purse_test

import (
	"slices"
	"testing"

	"pinaster/api"
	"pinaster/purse"
)

// P8.4

func TestDivide(t *testing.T) {
	capped, held := villages(), villages()
	capped[0].Cap = 5
	held[2].Floor = 4
	even := slices.Repeat([]api.PurseVillage{village(7, 0, 5)}, 3)
	for i, x := range []struct {
		quota int
		l     []api.PurseVillage
		want  []int
		e     api.Errno
	}{
		{10, villages(), []int{6, 2, 2}, api.OK}, {10, capped, []int{5, 3, 2}, api.OK}, {10, held, []int{4, 2, 4}, api.OK}, {0, villages(), []int{0, 0, 0}, api.OK}, {1, villages(), []int{1, 0, 0}, api.OK}, {2, villages(), []int{1, 1, 0}, api.OK}, {3, villages(), []int{1, 1, 1}, api.OK}, {4, villages(), []int{2, 1, 1}, api.OK},
		{29, villages(), []int{10, 10, 9}, api.OK}, {30, villages(), []int{10, 10, 10}, api.OK}, {31, villages(), nil, api.ErrNone}, {2000, villages(), nil, api.ErrNone}, {25, capped, []int{5, 10, 10}, api.OK}, {26, capped, nil, api.ErrNone},
		{3, held, nil, api.ErrNone}, {4, held, []int{0, 0, 4}, api.OK}, {5, held, []int{1, 0, 4}, api.OK}, {0, held, nil, api.ErrNone},
		{1, even, []int{1, 0, 0}, api.OK}, {2, even, []int{1, 1, 0}, api.OK}, {3, even, []int{1, 1, 1}, api.OK}, {4, even, []int{2, 1, 1}, api.OK}, {14, even, []int{5, 5, 4}, api.OK},
		{2, []api.PurseVillage{village(3, 0, 5), village(1, 0, 5)}, []int{2, 0}, api.OK}, {2, []api.PurseVillage{village(1, 0, 5), village(3, 0, 5)}, []int{1, 1}, api.OK}, // 3 by 3 is as much as 1 by 1
		{3, []api.PurseVillage{village(1, 0, 5), village(5, 0, 5)}, []int{1, 2}, api.OK}, {4, []api.PurseVillage{village(1, 0, 5), village(5, 0, 5)}, []int{1, 3}, api.OK}, {3, []api.PurseVillage{village(5, 0, 5), village(1, 0, 5)}, []int{3, 0}, api.OK},
		{3, []api.PurseVillage{village(1, 1, 5), village(5, 1, 5)}, []int{1, 2}, api.OK}, {4, []api.PurseVillage{village(9, 1, 1), village(1, 1, 9)}, []int{1, 3}, api.OK}, {5, []api.PurseVillage{village(1000000, 0, 0), village(1, 0, 5)}, []int{0, 5}, api.OK},
		{0, []api.PurseVillage{village(1, 0, 0)}, []int{0}, api.OK}, {1, []api.PurseVillage{village(1, 0, 0)}, nil, api.ErrNone}, {2000, []api.PurseVillage{village(1, 0, 2000)}, []int{2000}, api.OK}, {2000, []api.PurseVillage{village(1, 0, 1999)}, nil, api.ErrNone}, {2000, []api.PurseVillage{village(1, 0, 1999), village(1, 0, 1)}, []int{1999, 1}, api.OK},
		{1999, []api.PurseVillage{village(1, 1000, 2000), village(1, 1000, 2000)}, nil, api.ErrNone}, {2000, []api.PurseVillage{village(1, 1000, 2000), village(1, 1000, 2000)}, []int{1000, 1000}, api.OK}, {2000, slices.Repeat([]api.PurseVillage{village(1, 2000, 2000)}, 8), nil, api.ErrNone},
		{2000, slices.Repeat([]api.PurseVillage{village(1000000, 0, 2000)}, 8), slices.Repeat([]int{250}, 8), api.OK}, {2000, []api.PurseVillage{village(1000000, 0, 2000), village(1, 0, 2000)}, []int{2000, 0}, api.OK},
		{2000, []api.PurseVillage{village(999999, 0, 2000), village(1000000, 0, 2000)}, []int{1000, 1000}, api.OK}, {1, []api.PurseVillage{village(999999, 0, 2000), village(1000000, 0, 2000)}, []int{0, 1}, api.OK}, {1999, []api.PurseVillage{village(999999, 0, 2000), village(1000000, 0, 2000)}, []int{999, 1000}, api.OK},
		{2000, []api.PurseVillage{village(998500, 0, 2000), village(999499, 0, 2000)}, []int{999, 1001}, api.OK}, {2000, []api.PurseVillage{village(999499, 0, 2000), village(998500, 0, 2000)}, []int{1001, 999}, api.OK}, // the last quotients are hardly different
		{2000, []api.PurseVillage{village(997501, 0, 2000), village(998499, 0, 2000)}, []int{1000, 1000}, api.OK}, {2000, []api.PurseVillage{village(998499, 0, 2000), village(997501, 0, 2000)}, []int{1001, 999}, api.OK}, // here they are the same
	} {
		if list, e := purse.Divide(x.quota, x.l); !slices.Equal(list, x.want) || e != x.e {
			t.Errorf("%d: %v, %d, want %v, %d", i, list, e, x.want, x.e)
		}
	}
}

// throw throws villages, of which some have claims that are nearly the same, or multiples.
func (d *dice) throw() []api.PurseVillage {
	l := d.villages([]int{3, 60, 1000000}[d.upTo(2)], []int{6, 50, 2000}[d.upTo(2)])
	for i := range l[1:] {
		if d.upTo(2) == 0 {
			l[i+1].Claim = min(1000000, max(1, l[i].Claim*(2*d.upTo(2)+1)+d.from(-1, 1)))
		}
	}
	return l
}

func floorsAndCaps(l []api.PurseVillage) (floors, caps int) {
	for _, v := range l {
		floors, caps = floors+v.Floor, caps+v.Cap
	}
	return floors, caps
}

func TestDivideBarrelByBarrel(t *testing.T) {
	d := &dice{8}
	some, none := 0, 0
	for range 2000 {
		l := d.throw()
		floors, caps := floorsAndCaps(l)
		for _, quota := range []int{d.upTo(min(2000, caps+1)), floors - 1, floors, caps, caps + 1} {
			if quota < 0 || quota > 2000 {
				continue
			}
			want, wrong := dividedByBarrels(quota, l), api.OK
			if want == nil {
				wrong = api.ErrNone
				none++
			} else {
				some++
			}
			if list, e := purse.Divide(quota, l); !slices.Equal(list, want) || e != wrong {
				t.Fatalf("%d, %v: %v, %d, want %v, %d", quota, l, list, e, want, wrong)
			}
		}
	}
	if min(some, none) < 1000 {
		t.Errorf("%d can be divided, %d cannot", some, none)
	}
}

// P8.9

func TestWhatVillagesGet(t *testing.T) {
	d := &dice{9}
	for range 1000 {
		l := d.throw()
		floors, caps := floorsAndCaps(l)
		if floors > 2000 {
			continue
		}
		quota := d.from(floors, min(2000, caps))
		list, e := purse.Divide(quota, l)
		if len(list) != len(l) || sum(list) != quota || e != api.OK {
			t.Fatalf("%d, %v: %v, %d", quota, l, list, e)
		}
		for i, v := range l {
			if list[i] < v.Floor || list[i] > v.Cap {
				t.Fatalf("%d, %v: %v", quota, l, list)
			}
			for k, o := range l {
				if list[i] > v.Floor && list[k] < o.Cap && k != i && !hasBetterRight(l, i, list[i]-1, k, list[k]) {
					t.Fatalf("%d, %v: %v, but %d has better right than %d", quota, l, list, k, i)
				}
			}
		}
		if quota == min(2000, caps) {
			continue
		}
		more, e := purse.Divide(quota+1, l)
		if e != api.OK {
			t.Fatalf("%d, %v: %v, %d", quota+1, l, more, e)
		}
		for i := range more {
			if more[i] < list[i] {
				t.Fatalf("%v: %d is %v, one more is %v", l, quota, list, more)
			}
		}
	}
}
