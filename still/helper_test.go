package still_test

import (
	"math"
	"slices"

	"pinaster/api"
	"pinaster/still"
)

// odd are numbers that are in nothing of a still.
var odd = []int{-1, -2, math.MinInt, math.MaxInt, math.MinInt32, math.MaxInt32}

func span(low, high int) api.Span { return api.Span{Low: low, High: high} }

// row is all numbers from one to another one.
func row(from, to int) []int {
	var list []int
	for n := from; n <= to; n++ {
		list = append(list, n)
	}
	return list
}

// small is the still of the chapter's examples.
func small() api.Still {
	return api.Still{
		Table:  []api.StillPoint{{Vacuum: 0, Flash: 160}, {Vacuum: 50, Flash: 140}, {Vacuum: 100, Flash: 90}},
		Margin: 10,
		Steps: []api.StillStep{
			{Vacuum: 20, Cold: 100, Loss: span(5, 10)},
			{Vacuum: 60, Cold: 95, Loss: span(5, 5)},
		},
		End:      span(90, 130),
		Settings: []api.StillSetting{{Heat: span(0, 0), Yield: 0}, {Heat: span(8, 12), Yield: 3}},
		Sensors:  3, Failed: 1, Error: 2,
	}
}

// wrongStill is wrong in one thing that is easily left out.
func wrongStill() api.Still {
	s := small()
	s.Failed = 2
	return s
}

func clone(s api.Still) api.Still {
	s.Table, s.Steps, s.Settings = slices.Clone(s.Table), slices.Clone(s.Steps), slices.Clone(s.Settings)
	return s
}

// level is a still with the same flash everywhere, and with one step.
func level(flash int, loss, end api.Span, settings ...api.StillSetting) api.Still {
	return api.Still{
		Table: []api.StillPoint{{Vacuum: 0, Flash: flash}, {Vacuum: 100, Flash: flash}},
		Steps: []api.StillStep{{Loss: loss}}, End: end, Settings: settings, Sensors: 1,
	}
}

func heat(low, high, yield int) api.StillSetting {
	return api.StillSetting{Heat: span(low, high), Yield: yield}
}

// dice throws the same numbers in each run of the tests.
type dice struct{ seed uint64 }

// upTo throws a number from 0 to most.
func (d *dice) upTo(most int) int {
	d.seed = d.seed*6364136223846793005 + 1442695040888963407
	return int(d.seed >> 33 % uint64(most+1))
}

func (d *dice) from(least, most int) int { return least + d.upTo(most-least) }

func (d *dice) in(s api.Span) int { return d.from(s.Low, s.High) }

func (d *dice) span(least, most int) api.Span {
	low := d.from(least, most)
	return span(low, d.from(low, most))
}

// near throws a span at most so long that lies in others.
func (d *dice) near(least, most, length int) api.Span {
	low := d.from(least, most)
	return span(low, d.from(low, min(most, low+length)))
}

// table throws a table with flashes from one to another one.
func (d *dice) table(low, high int) []api.StillPoint {
	points := []api.StillPoint{{Vacuum: 0}, {Vacuum: 100}}
	for range d.upTo(4) {
		v := d.from(1, 99)
		if !slices.ContainsFunc(points, func(p api.StillPoint) bool { return p.Vacuum == v }) {
			points = append(points, api.StillPoint{Vacuum: v})
		}
	}
	slices.SortFunc(points, func(a, b api.StillPoint) int { return a.Vacuum - b.Vacuum })
	for i := range points {
		points[i].Flash = d.from(low, high)
		high = points[i].Flash
	}
	return points
}

// still throws a valid still of which some temperatures are often safe.
func (d *dice) still(steps int) api.Still {
	s := api.Still{Sensors: d.from(1, 7), Error: d.upTo(4)}
	s.Failed = d.upTo((s.Sensors - 1) / 2)
	low := []int{0, 60, 90, 120}[d.upTo(3)]
	switch d.upTo(2) {
	case 0:
		s.Table, s.End = d.table([]int{180, 200}[d.upTo(1)], 200), span(low, 200)
	case 1:
		s.Table, s.Margin, s.End = d.table(130, 200), d.upTo(10), d.near(low, 140, 60)
	case 2:
		s.Table, s.Margin, s.End = d.table(80, 160), d.upTo(20), d.near(max(0, low-20), 140, 60)
	}
	for range steps {
		cold := d.from(max(0, low-30), low)
		s.Steps = append(s.Steps, api.StillStep{Vacuum: d.upTo(100), Cold: cold, Loss: d.near(0, 20, 3)})
	}
	for range d.from(1, 4) {
		s.Settings = append(s.Settings, api.StillSetting{Heat: d.near(0, 40, 4), Yield: d.upTo(5)})
	}
	return s
}

// anyStill throws a valid still with numbers of all sizes.
func (d *dice) anyStill() api.Still {
	s := api.Still{Table: d.table(0, 200), Margin: d.upTo(200), End: d.span(0, 200), Sensors: d.from(1, 7), Error: d.upTo(8)}
	s.Failed = d.upTo((s.Sensors - 1) / 2)
	for range d.from(1, 8) {
		s.Steps = append(s.Steps, api.StillStep{Vacuum: d.upTo(100), Cold: d.upTo(200), Loss: d.span(0, 60)})
	}
	for range d.from(1, 4) {
		s.Settings = append(s.Settings, api.StillSetting{Heat: d.span(0, 60), Yield: d.upTo(1000)})
	}
	return s
}

// readings throws what sensors say of a temperature: so many of them say anything, all others are wrong by no more than the error.
func (d *dice) readings(s api.Still, temp, failed int) []int {
	var list []int
	for range s.Sensors {
		list = append(list, temp+d.from(-s.Error, s.Error))
	}
	for range failed {
		near := temp + d.from(-4*s.Error-2, 4*s.Error+2)
		list[d.upTo(s.Sensors-1)] = []int{near, near, near, d.from(-300, 500), math.MinInt, math.MaxInt}[d.upTo(5)]
	}
	return list
}

// oracle is a still, and what is so in it, found in its own way.
type oracle struct {
	api.Still
	safe [][]bool // by step and temperature; those of the end are behind all steps
	sure [][]int  // by step and temperature
}

func oracleOf(s api.Still) oracle {
	o := oracle{Still: s, safe: make([][]bool, len(s.Steps)+1), sure: make([][]int, len(s.Steps)+1)}
	for step := len(s.Steps); step >= 0; step-- {
		o.safe[step], o.sure[step] = make([]bool, 201), make([]int, 201)
		if step == len(s.Steps) {
			for temp := s.End.Low; temp <= s.End.High; temp++ {
				o.safe[step][temp] = true
			}
			continue
		}
		leads := o.leads(step)
		for temp := range 201 {
			o.safe[step][temp] = o.inRange(step, temp) && o.isSafe(leads, temp)
		}
		for temp := range 201 {
			if o.safe[step][temp] {
				o.sure[step][temp] = o.sureOf(leads, step, temp)
			}
		}
	}
	return o
}

// flash looks for the least whole number that is not less than the quotient.
func (o oracle) flash(vacuum int) int {
	for i, b := range o.Table[1:] {
		if a := o.Table[i]; a.Vacuum <= vacuum && vacuum <= b.Vacuum {
			less := 0
			for less*(b.Vacuum-a.Vacuum) < (a.Flash-b.Flash)*(vacuum-a.Vacuum) {
				less++
			}
			return a.Flash - less
		}
	}
	return -1
}

func (o oracle) inRange(step, temp int) bool {
	x := o.Steps[step]
	return temp >= x.Cold && temp <= o.flash(x.Vacuum)-o.Margin
}

// after is what follows with all heats and losses, each temperature once.
func (o oracle) after(step, temp, setting int) []int {
	var all []int
	for h := o.Settings[setting].Heat.Low; h <= o.Settings[setting].Heat.High; h++ {
		for l := o.Steps[step].Loss.Low; l <= o.Steps[step].Loss.High; l++ {
			n := temp + h - l
			if n < 0 {
				n = 0
			}
			if n > 200 {
				n = 200
			}
			all = append(all, n)
		}
	}
	slices.Sort(all)
	return slices.Compact(all)
}

// leads tells by setting and temperature whether all that follows is safe, or the temperature is not in the range.
func (o oracle) leads(step int) [][]bool {
	var all [][]bool
	for setting := range o.Settings {
		leads := make([]bool, 201)
		for temp := range leads {
			leads[temp] = !o.inRange(step, temp) || !slices.ContainsFunc(o.after(step, temp, setting), func(n int) bool { return !o.safe[step+1][n] })
		}
		all = append(all, leads)
	}
	return all
}

// choose is the setting for a span: -1, if there is none.
func (o oracle) choose(leads [][]bool, s api.Span) int {
	best := -1
	for setting, x := range o.Settings {
		holds := true
		for temp := max(0, s.Low); temp <= min(200, s.High); temp++ {
			holds = holds && leads[setting][temp]
		}
		if holds && (best < 0 || x.Yield > o.Settings[best].Yield) {
			best = setting
		}
	}
	return best
}

func (o oracle) isSafe(leads [][]bool, temp int) bool {
	for low := temp - 2*o.Error; low <= temp; low++ {
		if o.choose(leads, span(low, low+2*o.Error)) < 0 {
			return false
		}
	}
	return true
}

// sureOf tries all spans that have a temperature, and all that follows.
func (o oracle) sureOf(leads [][]bool, step, temp int) int {
	sure := math.MaxInt
	for low := temp - 2*o.Error; low <= temp; low++ {
		for high := temp; high <= low+2*o.Error; high++ {
			setting := o.choose(leads, span(low, high))
			for _, n := range o.after(step, temp, setting) {
				sure = min(sure, o.Settings[setting].Yield+o.sure[step+1][n])
			}
		}
	}
	return sure
}

// list is all temperatures that are safe for a step.
func (o oracle) list(step int) []int {
	var list []int
	for temp, safe := range o.safe[step] {
		if safe {
			list = append(list, temp)
		}
	}
	return list
}

// possible are all temperatures that are possible with readings, which are no extreme numbers.
func (o oracle) possible(readings []int) []int {
	var list []int
	for temp := range 201 {
		wrong := 0
		for _, r := range readings {
			if math.Abs(float64(r)-float64(temp)) > float64(o.Error) {
				wrong++
			}
		}
		if wrong <= o.Failed {
			list = append(list, temp)
		}
	}
	return list
}

// question is what all functions are asked.
type question struct {
	s                           api.Still
	vacuum, step, temp, setting int
	known                       api.Span
	one                         []int
	readings                    [][]int
	heat, loss                  []int
}

func ask() question {
	one := []int{110, 111, 150}
	return question{small(), 20, 0, 110, 1, span(110, 112), one, [][]int{one, {112, 113, 113}}, []int{10, 9}, []int{8, 5}}
}

// names are the functions, in the order of answers.
var names = []string{"Check", "Flash", "Range", "Known", "Suspects", "Next", "Safe", "Setting", "Sure", "Run"}

// answers are the errors that all functions return: -1 where another result is not zero with an error.
func (q question) answers() []api.Errno {
	zeroWith := func(e api.Errno, zero bool) api.Errno {
		if e != api.OK && !zero {
			return -1
		}
		return e
	}
	flash, e1 := still.Flash(q.s, q.vacuum)
	between, e2 := still.Range(q.s, q.step)
	known, e3 := still.Known(q.s, q.one)
	suspects, e4 := still.Suspects(q.s, q.one)
	next, e5 := still.Next(q.s, q.step, q.temp, q.setting)
	safe, e6 := still.Safe(q.s, q.step)
	setting, e7 := still.Setting(q.s, q.step, q.known)
	sure, e8 := still.Sure(q.s, q.step, q.temp)
	temps, settings, e9 := still.Run(q.s, q.temp, q.readings, q.heat, q.loss)
	return []api.Errno{
		still.Check(q.s),
		zeroWith(e1, flash == 0),
		zeroWith(e2, between == api.Span{}),
		zeroWith(e3, known == api.Span{}),
		zeroWith(e4, len(suspects) == 0),
		zeroWith(e5, next == api.Span{}),
		zeroWith(e6, len(safe) == 0),
		zeroWith(e7, setting == 0),
		zeroWith(e8, sure == 0),
		zeroWith(e9, len(temps) == 0 && len(settings) == 0),
	}
}
