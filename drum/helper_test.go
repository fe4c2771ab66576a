package drum_test

import (
	"math"
	"slices"
	"strconv"

	"pinaster/api"
	"pinaster/drum"
)

// odd are numbers that are in nothing of drum.
var odd = []int{-1, -2, math.MinInt, math.MaxInt, math.MinInt32, math.MinInt + 1, math.MaxInt - 1}

const exampleText = "stand a\nstand b\ntank t\ndrum d1\ndrum d2\nsink fume\n" +
	"pour a t 300\npour b t 200\npour t fume 50\npour t d1 300\npour a t 100\npour t d2 200\nend\n"

// example is the log of the chapter's examples.
func example() api.DrumLog {
	l := logOf("sstddk", pour(0, 2, 300), pour(1, 2, 200), pour(2, 5, 50), pour(2, 3, 300), pour(0, 2, 100), pour(2, 4, 200))
	for i, name := range []string{"a", "b", "t", "d1", "d2", "fume"} {
		l.Vessels[i].Name = name
	}
	return l
}

// logOf returns a log with vessels v0, v1 and so on, of kinds that are written s, t, d and k.
func logOf(kinds string, pours ...api.DrumPour) api.DrumLog {
	l := api.DrumLog{Pours: pours}
	for i, letter := range kinds {
		kind := map[rune]int{'s': api.DrumStand, 't': api.DrumTank, 'd': api.DrumDrum, 'k': api.DrumSink}[letter]
		l.Vessels = append(l.Vessels, api.DrumVessel{Name: "v" + strconv.Itoa(i), Kind: kind})
	}
	return l
}

func pour(from, to, grams int) api.DrumPour {
	return api.DrumPour{From: from, To: to, Grams: grams}
}

// layers returns layers of stands and grams in turn.
func layers(numbers ...int) []api.DrumLayer {
	var l []api.DrumLayer
	for i := 0; i < len(numbers); i += 2 {
		l = append(l, api.DrumLayer{Stand: numbers[i], Grams: numbers[i+1]})
	}
	return l
}

// shares returns shares of vessels and grams in turn.
func shares(numbers ...int) []api.DrumShare {
	var l []api.DrumShare
	for _, x := range layers(numbers...) {
		l = append(l, api.DrumShare{Vessel: x.Stand, Grams: x.Grams})
	}
	return l
}

func exampleLayers() []api.DrumLayer { return layers(0, 250, 1, 150, 0, 100) }

func sameLog(a, b api.DrumLog) bool {
	return slices.Equal(a.Vessels, b.Vessels) && slices.Equal(a.Pours, b.Pours)
}

// contents are the stands of all grams in each vessel, gram by gram, the oldest one first.
func contents(l api.DrumLog) (in [][]int, possible bool) {
	in = make([][]int, len(l.Vessels))
	for _, p := range l.Pours {
		for range p.Grams {
			gram := p.From
			if l.Vessels[p.From].Kind != api.DrumStand {
				if len(in[p.From]) == 0 {
					return nil, false
				}
				gram = in[p.From][0]
				in[p.From] = in[p.From][1:]
			}
			in[p.To] = append(in[p.To], gram)
		}
	}
	return in, true
}

// layersOf are the layers of grams.
func layersOf(grams []int) []api.DrumLayer {
	var l []api.DrumLayer
	for i, stand := range grams {
		if i == 0 || grams[i-1] != stand {
			l = append(l, api.DrumLayer{Stand: stand})
		}
		l[len(l)-1].Grams++
	}
	return l
}

// gramsOf are the grams of layers.
func gramsOf(l []api.DrumLayer) []int {
	var grams []int
	for _, x := range l {
		grams = append(grams, slices.Repeat([]int{x.Stand}, x.Grams)...)
	}
	return grams
}

func count(grams []int, stand int) int {
	n := 0
	for _, x := range grams {
		if x == stand {
			n++
		}
	}
	return n
}

// ofKind are the indices of the vessels of a kind.
func ofKind(l api.DrumLog, kind int) []int {
	var list []int
	for i, v := range l.Vessels {
		if v.Kind == kind {
			list = append(list, i)
		}
	}
	return list
}

// drumsOf are the drums in which there is something of a stand in the end.
func drumsOf(l api.DrumLog, stand int) []int {
	in, _ := contents(l)
	var list []int
	for _, i := range ofKind(l, api.DrumDrum) {
		if slices.Contains(in[i], stand) {
			list = append(list, i)
		}
	}
	return list
}

// drumsOfAll are the drums of each stand that has some.
func drumsOfAll(l api.DrumLog) map[int][]int {
	all := map[int][]int{}
	for _, s := range ofKind(l, api.DrumStand) {
		if list := drumsOf(l, s); len(list) > 0 {
			all[s] = list
		}
	}
	return all
}

// tell reports whether drums tell stands.
func tell(tested []int, of map[int][]int) bool {
	for _, a := range of {
		if !slices.ContainsFunc(tested, func(d int) bool { return slices.Contains(a, d) }) {
			return false
		}
		for _, b := range of {
			one := func(d int) bool { return slices.Contains(a, d) != slices.Contains(b, d) }
			if !slices.Equal(a, b) && !slices.ContainsFunc(tested, one) {
				return false
			}
		}
	}
	return true
}

// sets are all increasing lists of elements of a list.
func sets(list []int) [][]int {
	all := [][]int{nil}
	for _, n := range list {
		for _, x := range all {
			all = append(all, append(slices.Clone(x), n))
		}
	}
	return all
}

// firstTests are the fewest drums that tell stands, the first ones of several, found by trying all.
func firstTests(l api.DrumLog) []int {
	var best []int
	found, of := false, drumsOfAll(l)
	for _, tested := range sets(ofKind(l, api.DrumDrum)) {
		better := !found || len(tested) < len(best) || len(tested) == len(best) && slices.Compare(tested, best) < 0
		if better && tell(tested, of) {
			best, found = tested, true
		}
	}
	return best
}

// suspects are the stands that can be bad.
func suspects(l api.DrumLog, tested, bad []int) []int {
	var list []int
	for _, s := range ofKind(l, api.DrumStand) {
		drums := drumsOf(l, s)
		fits := len(drums) > 0
		for _, d := range tested {
			fits = fits && slices.Contains(drums, d) == slices.Contains(bad, d)
		}
		if fits {
			list = append(list, s)
		}
	}
	return list
}

// standOf is the least stand of which a drum is.
func standOf(grams []int, pure int) (stand int, is bool) {
	for stand := range 8 {
		if 1000*count(grams, stand) >= pure*len(grams) {
			return stand, true
		}
	}
	return 0, false
}

// allFillings are all fillings of layers, whatever their rest.
func allFillings(l []api.DrumLayer, size, pure int) [][]api.DrumFill {
	grams := gramsOf(l)
	var all [][]api.DrumFill
	var fill func(front []api.DrumFill, from int)
	fill = func(front []api.DrumFill, from int) {
		all = append(all, front)
		for start := from; start+size <= len(grams); start++ {
			if stand, is := standOf(grams[start:start+size], pure); is {
				fill(append(slices.Clone(front), api.DrumFill{Start: start, Stand: stand}), start+size)
			}
		}
	}
	fill(nil, 0)
	return all
}

// restOf is the rest of a filling.
func restOf(l []api.DrumFill, size int) int {
	rest, end := 0, 0
	for _, x := range l {
		rest += x.Start - end
		end = x.Start + size
	}
	return rest
}

// firstFilling is one with the most drums, the first one of several, of some that are all.
func firstFilling(all [][]api.DrumFill, size, rest int) []api.DrumFill {
	var best []api.DrumFill
	for _, x := range all {
		first := slices.CompareFunc(x, best, func(a, b api.DrumFill) int { return a.Start - b.Start }) < 0
		if restOf(x, size) <= rest && (len(x) > len(best) || len(x) == len(best) && first) {
			best = x
		}
	}
	return best
}

// dice throws the same numbers in each run of the tests.
type dice struct{ seed uint64 }

// upTo throws a number from 0 to most.
func (d *dice) upTo(most int) int {
	d.seed = d.seed*6364136223846793005 + 1442695040888963407
	return int(d.seed >> 33 % uint64(most+1))
}

func (d *dice) from(least, most int) int { return least + d.upTo(most-least) }

// log throws a possible log, with pours from stands of at most so many grams.
func (d *dice) log(most int) api.DrumLog {
	kinds := []byte("sstddk")
	for range d.upTo(6) {
		kinds = append(kinds, "sstdddk"[d.upTo(6)])
	}
	for i := range kinds {
		k := d.upTo(i)
		kinds[i], kinds[k] = kinds[k], kinds[i]
	}
	l := logOf(string(kinds))
	in := make([]int, len(kinds))
	for range d.upTo(30) {
		from, to := d.upTo(len(kinds)-1), d.upTo(len(kinds)-1)
		grams := min(in[from], d.from(1, most))
		if kinds[from] == 's' {
			grams = d.from(1, most)
		}
		if from == to || kinds[from] == 'k' || kinds[to] == 's' || grams == 0 {
			continue
		}
		in[from], in[to] = in[from]-grams, in[to]+grams
		l.Pours = append(l.Pours, pour(from, to, grams))
	}
	return l
}

// layers throws layers of few stands.
func (d *dice) layers(many, stands, grams int) []api.DrumLayer {
	var l []api.DrumLayer
	for range d.from(1, many) {
		l = append(l, api.DrumLayer{Stand: d.upTo(stands - 1), Grams: d.from(1, grams)})
	}
	return l
}

// some throws an increasing list of elements of a list.
func (d *dice) some(list []int) []int {
	var some []int
	for _, n := range list {
		if d.upTo(1) == 0 {
			some = append(some, n)
		}
	}
	return some
}

// question is what all functions are asked.
type question struct {
	l                api.DrumLog
	vessel, stand    int
	enough           int
	tested, bad      []int
	layers           []api.DrumLayer
	size, pure, rest int
	text             string
}

func ask() question {
	return question{
		l: example(), vessel: 3, stand: 1, enough: 800, tested: []int{3, 4}, bad: []int{3},
		layers: exampleLayers(), size: 100, pure: 900, rest: 60, text: exampleText,
	}
}

// names are the functions, in the order of answers.
var names = []string{"Check", "Layers", "Trace", "Recall", "Sums", "Label", "Tests", "Suspects", "Print", "Fill", "Parse"}

// withLog are those with a log that must be possible.
var withLog = names[:8]

// answers are the errors that all functions return, -1 where another result is not zero with an error.
func (q question) answers() []api.Errno {
	zeroWith := func(e api.Errno, zero bool) api.Errno {
		if e != api.OK && !zero {
			return -1
		}
		return e
	}
	l, e1 := drum.Layers(q.l, q.vessel)
	traced, e2 := drum.Trace(q.l, q.vessel)
	recalled, e3 := drum.Recall(q.l, q.stand)
	sums, e4 := drum.Sums(q.l)
	stands, e5 := drum.Label(q.l, q.vessel, q.enough)
	tests, e6 := drum.Tests(q.l)
	bad, e7 := drum.Suspects(q.l, q.tested, q.bad)
	text, e8 := drum.Print(q.l)
	fills, e9 := drum.Fill(q.layers, q.size, q.pure, q.rest)
	parsed, e10 := drum.Parse(q.text)
	return []api.Errno{
		drum.Check(q.l),
		zeroWith(e1, len(l) == 0),
		zeroWith(e2, len(traced) == 0),
		zeroWith(e3, len(recalled) == 0),
		zeroWith(e4, sums == api.DrumSums{}),
		zeroWith(e5, len(stands) == 0),
		zeroWith(e6, len(tests) == 0),
		zeroWith(e7, len(bad) == 0),
		zeroWith(e8, text == ""),
		zeroWith(e9, len(fills) == 0),
		zeroWith(e10, len(parsed.Vessels)+len(parsed.Pours) == 0),
	}
}
