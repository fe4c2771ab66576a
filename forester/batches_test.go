package forester_test

import (
	"fmt"
	"math/big"
	"testing"

	"pinaster/api"
	"pinaster/forester"
)

// crew are lines with which mo has the trees a and b, lu has c, and ka has d; all have pots, and nobody has resin.
func crew() []string {
	lines := []string{"plant a", "plant b", "plant c", "plant d", "tapper mo", "tapper lu", "tapper ka", "day 1500", "give a mo", "give b mo", "give c lu", "give d ka"}
	for _, tag := range []string{"a", "b", "c", "d"} {
		lines = append(lines, "open "+tag, "hang "+tag+" 1000000")
	}
	return lines
}

// expectBatch expects a batch.
func expectBatch(t *testing.T, f *forester.Forest, batch int, want api.ForestBatch) {
	t.Helper()
	if x := f.Batches()[batch]; fmt.Sprint(x) != fmt.Sprint(want) {
		t.Errorf("the batch %d: %v, want %v", batch, x, want)
	}
}

// P11.2, P11.3

func TestDistil(t *testing.T) {
	f := begin(t, setup(), append(crew(), "empty b 10 1", "empty a 20 2", "empty c 5 4", "empty d 0 8")...)
	expectErrors(t, f, api.ErrUnknown, "distil z 0 0 0 : x", "distil z 0 0 0 : mo x", "distil z 0 0 0 : x mo mo", "distil z 0 0 0 : x ka", "distil z 99 99 99 : mo x", "distil z 0 0 0 : mo x mo")
	expectErrors(t, f, api.ErrState, "distil z 0 0 0 : ka", "distil z 0 0 0 : mo ka", "distil z 0 0 0 : ka x", "distil z 0 0 0 : mo mo", "distil z 0 0 0 : mo lu mo", "distil z 0 0 0 : mo mo x", "distil z 99 99 99 : mo mo")
	expectErrors(t, f, api.ErrHeavy, "distil z 36 0 0 : mo lu", "distil z 0 36 0 : mo lu", "distil z 0 0 36 : mo lu", "distil z 12 12 12 : mo lu", "distil z 6 0 0 : lu")
	expectAll(t, f, "distil z 11 10 9 : lu mo", "5", "totals", "0 8 7 11 10 9 5 0 800 0 0 0")
	expectBatch(t, f, 0, api.ForestBatch{Name: "z", Tappers: []int{1, 0}, Resin: []int{5, 30}, Trees: []int{2, 1, 0}, Left: 5, Rosin: 5, Grade: api.NoGrade})
	expectErrors(t, f, api.ErrState, "distil y 0 0 0 : mo", "distil y 0 0 0 : lu")
	expectAll(t, f, "empty d 7 0", "", "empty a 1 0", "", "distil y 8 0 0 : mo ka", "0")
	expectBatch(t, f, 1, api.ForestBatch{Name: "y", Tappers: []int{0, 2}, Resin: []int{1, 7}, Trees: []int{0, 3}, Grade: api.NoGrade})
	expect(t, f, "totals", "0 0 15 19 10 9 5 0 800 0 0 0")
}

func TestTreesInTwoCasks(t *testing.T) {
	f := begin(t, always(), append(crew(), "empty a 10 0", "empty b 1 0", "fell a", "plant a", "give a lu", "day 2500", "open a", "hang a 50", "empty c 2 0", "empty a 3 0")...)
	expectAll(t, f, "distil z 0 0 0 : mo lu", "16")
	expectBatch(t, f, 0, api.ForestBatch{Name: "z", Tappers: []int{0, 1}, Resin: []int{11, 5}, Trees: []int{0, 1, 2}, Left: 16, Rosin: 16, Grade: api.NoGrade})
	expectAll(t, f, "fill k z 1", "15", "trace k", "z : mo lu : a b c")
}

func TestTests(t *testing.T) {
	f := begin(t, setup(), distilled(100)...)
	expectErrors(t, f, api.ErrUnknown, "test y 0 250 10", "test mo 0 250 10", "test y 4 0 0", "grade y", "pay y")
	expectErrors(t, f, api.ErrRosinTest, "test z 4 0 0", "test z 0 2001 0", "test z 0 0 101")
	expectErrors(t, f, api.ErrRosinClash, "test z 0 1001 0", "test z 2 401 100")
	expectErrors(t, f, api.ErrUnproved, "grade z")
	expectErrors(t, f, api.ErrState, "pay z")
	expectAll(t, f, "test z 0 250 10", "0 1 2", "test z 1 750 20", "0 1 2", "test z 2 155 3", "1 2", "test z 3 20 1", "1 2", "grade z", "!117", "test z 3 19 0", "1")
	expectErrors(t, f, api.ErrRosinClash, "test z 0 239 0", "test z 2 162 3")
	expectBatch(t, f, 0, api.ForestBatch{Name: "z", Tappers: []int{0}, Resin: []int{100}, Trees: []int{0}, Left: 100, Rosin: 100, Tests: []api.RosinTest{{Part: 0, Read: 250, Wrong: 10}, {Part: 1, Read: 750, Wrong: 20}, {Part: 2, Read: 155, Wrong: 3}, {Part: 3, Read: 20, Wrong: 1}, {Part: 3, Read: 19, Wrong: 0}}, Grade: api.NoGrade})
	expectAll(t, f, "grade z", "1")
	expectErrors(t, f, api.ErrState, "grade z", "test z 0 250 10", "test z 0 239 0", "test z 4 0 0")
	if b := f.Batches()[0]; b.Grade != 1 || len(b.Tests) != 5 || b.Paid {
		t.Errorf("graded: %v", b)
	}
}

func TestHowManyTests(t *testing.T) {
	f := begin(t, setup(), distilled(100)...)
	for range 12 {
		expect(t, f, "test z 0 700 0", "2")
	}
	expectErrors(t, f, api.ErrRosinTest, "test z 0 700 0", "test z 0 701 0")
	expectAll(t, f, "grade z", "2", "pay z", "0 0 0", "owes mo", "200 0") // of no grade it is worth nothing
	expectErrors(t, f, api.ErrState, "grade z", "pay z", "test z 0 700 0")
	one := begin(t, always(), distilled(100)...) // of one grade alone, tests prove nothing more
	expectAll(t, one, "grade z", "0", "pay z", "0 100 0")
}

func TestGradesOfOtherBatches(t *testing.T) {
	f := begin(t, setup(), append(distilled(100), "empty a 50 0", "distil y 0 0 0 : mo", "test y 0 700 0", "grade y")...)
	expectErrors(t, f, api.ErrUnproved, "grade z")
	expectErrors(t, f, api.ErrState, "pay z", "grade y", "test y 0 0 0")
	expectAll(t, f, "pay y", "0 0 0", "test z 0 250 10", "0 1 2")
	expectErrors(t, f, api.ErrState, "pay y", "pay z")
}

func TestFill(t *testing.T) {
	f := begin(t, setup(), append(distilled(100), "empty a 50 0", "distil y 0 0 0 : mo")...)
	expectErrors(t, f, api.ErrHeavy, "fill k z 0", "fill k z 101", "fill k y 51")
	expectErrors(t, f, api.ErrUnknown, "fill k x 0", "fill k x 101", "trace k", "trace z")
	expectAll(t, f, "fill k z 40", "60", "fill j y 50", "0", "fill i z 60", "0", "totals", "0 0 0 0 0 0 0 150 200 0 0 0")
	expectErrors(t, f, api.ErrHeavy, "fill h z 1", "fill h y 1", "fill h z 0")
	expectErrors(t, f, api.ErrTwice, "fill k z 1", "fill k z 0", "fill k x 0")
	if l := f.Drums(); fmt.Sprint(l) != "[{k 0 40} {j 1 50} {i 0 60}]" {
		t.Errorf("drums: %v", l)
	}
	expectAll(t, f, "trace k", "z : mo : a", "trace j", "y : mo : a", "trace i", "z : mo : a")
	expectAll(t, f, "test z 0 700 0", "2", "grade z", "2", "pay z", "0 0 0") // it is graded and paid when it is in drums
	if b := f.Batches(); b[0].Left != 0 || b[0].Rosin != 100 || b[1].Left != 0 || b[1].Rosin != 50 {
		t.Errorf("batches: %v", b)
	}
}

func TestPay(t *testing.T) {
	// What z is worth by its price, and what of it mo, with 30 of the 35 grams, and lu get.
	for _, x := range []struct {
		price, dirt, worth, mo, lu int
	}{
		{1000, 0, 35, 30, 5}, {1000, 5, 30, 25, 4}, {1000, 35, 0, 0, 0}, {999, 0, 34, 29, 4}, {10000, 0, 350, 300, 50}, {28, 0, 0, 0, 0}, {29, 0, 1, 0, 0}, {0, 0, 0, 0, 0}, {10000, 34, 10, 8, 1}, {57, 0, 1, 0, 0}, {58, 0, 2, 1, 0}, {10000, 7, 280, 240, 40},
	} {
		for _, advance := range []int{0, 1, 5, 20, 100, 100000} {
			s := always()
			s.Grades[0].Price, s.Advance = x.price, advance
			f := begin(t, s, append(crew(), "empty b 10 1", "empty a 20 2", "empty c 5 4", fmt.Sprint("distil z 0 0 ", x.dirt, " : lu mo"), "grade z")...)
			moLoan, luLoan := min(x.mo, 2*advance), min(x.lu, advance)
			kept := moLoan + luLoan
			paid := x.mo + x.lu - kept
			expectAll(t, f, "pay z", fmt.Sprint(paid, kept, x.worth-x.mo-x.lu),
				"owes mo", fmt.Sprint(2*advance-moLoan, x.mo-moLoan), "owes lu", fmt.Sprint(advance-luLoan, x.lu-luLoan), "owes ka", fmt.Sprint(advance, 0),
				"totals", fmt.Sprint("0 0 7 0 0 ", x.dirt, 35-x.dirt, 0, 4*advance, paid, kept, x.worth-x.mo-x.lu))
			expectErrors(t, f, api.ErrState, "pay z", "grade z")
			if b := f.Batches()[0]; !b.Paid || b.Grade != 0 {
				t.Errorf("paid: %v", b)
			}
		}
	}
}

func TestDrumsArePaidToo(t *testing.T) {
	f := begin(t, always(), append(distilled(100), "fill k z 30", "fill j z 70", "grade z")...)
	expectAll(t, f, "pay z", "0 100 0", "owes mo", "100 0", "empty a 400 0", "", "distil y 0 0 0 : mo", "400", "grade y", "0", "pay y", "300 100 0", "owes mo", "0 300", "totals", "0 0 0 0 0 0 400 100 200 300 200 0")
}

func TestPriceOfItsGrade(t *testing.T) {
	for grade, tests := range [][]string{
		{"test z 0 300 0", "test z 1 700 0", "test z 2 160 0", "test z 3 5 0"},
		{"test z 0 301 0", "test z 1 650 0", "test z 2 150 0", "test z 3 20 0"},
		{"test z 0 300 0", "test z 1 649 0"},
	} {
		f := begin(t, setup(), append(distilled(10000), tests...)...)
		expectAll(t, f, "grade z", fmt.Sprint(grade), "pay z", []string{"700 200 0", "400 200 0", "0 0 0"}[grade])
	}
}

func TestPayOfGreatBatches(t *testing.T) {
	s := always()
	s.Grades[0].Price = 10000
	f := begin(t, s, crew()...)
	do(t, f, numbered(0, 100, "empty a 1000000 0", "empty c 999983 1")...)
	do(t, f, "empty d 1 0", "distil z 0 0 1 : ka lu mo", "grade z")
	all := big.NewInt(100*1000000 + 100*999983 + 1)
	worth := int64(100*1000000+100*999983) * 10
	share := func(resin int64) int64 {
		product := new(big.Int).Mul(big.NewInt(worth), big.NewInt(resin))
		return product.Div(product, all).Int64()
	}
	mo, lu, ka := share(100*1000000), share(100*999983), share(1)
	kept := 400 + 200 + ka
	expectAll(t, f, "pay z", fmt.Sprint(mo+lu+ka-kept, kept, worth-mo-lu-ka), "owes mo", fmt.Sprint(0, mo-400), "owes lu", fmt.Sprint(0, lu-200), "owes ka", fmt.Sprint(200-ka, 0))
}
