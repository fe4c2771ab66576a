package drum

import (
	"strconv"
	"strings"

	"pinaster/api"
)

// kinds are the words of the kinds of vessels, from DrumStand on.
var kinds = [...]string{"stand", "tank", "drum", "sink"}

const (
	pourWord = "pour"
	endWord  = "end"
)

// Print returns the text of a log.
func Print(l api.DrumLog) (string, api.Errno) {
	if e := checkLog(l); e != api.OK {
		return "", e
	}
	text := ""
	for _, v := range l.Vessels {
		text += line(kinds[v.Kind-api.DrumStand], v.Name)
	}
	for _, p := range l.Pours {
		text += line(pourWord, l.Vessels[p.From].Name, l.Vessels[p.To].Name, strconv.Itoa(p.Grams))
	}
	return text + line(endWord), api.OK
}

func line(tokens ...string) string { return strings.Join(tokens, " ") + "\n" }

// Parse returns the log of a text.
func Parse(s string) (l api.DrumLog, e api.Errno) {
	if len(s) > api.MaxFile {
		return api.DrumLog{}, api.ErrLimit
	}
	defer func() {
		if recover() != nil {
			l, e = api.DrumLog{}, api.ErrForm
		}
	}()
	l = read(s)
	if text, e := Print(l); e != api.OK || text != s {
		return api.DrumLog{}, api.ErrForm
	}
	return l, api.OK
}

// reader reads a text line by line, and panics where a line is none of a log.
// Blanks, zeros in front and the order of lines are left to Parse, which compares the text with that of the log.
type reader struct {
	api.DrumLog
	vessels map[string]int // by their names
}

// read returns the log of which a text is, if it is one of a valid log.
func read(text string) api.DrumLog {
	r := reader{vessels: map[string]int{}}
	for line := range strings.Lines(text) {
		r.take(strings.Fields(line))
	}
	return r.DrumLog
}

func (r *reader) take(tokens []string) {
	switch {
	case len(tokens) == 1 && tokens[0] == endWord:
	case len(tokens) == 2:
		r.takeVessel(tokens[0], tokens[1])
	case len(tokens) == 4 && tokens[0] == pourWord:
		p := api.DrumPour{From: r.vessel(tokens[1]), To: r.vessel(tokens[2]), Grams: number(tokens[3])}
		r.Pours = append(r.Pours, p)
	default:
		panic(api.ErrForm)
	}
}

// takeVessel keeps a copy of the name, because a part of the text would keep all of it in memory.
func (r *reader) takeVessel(kind, name string) {
	name = strings.Clone(name)
	r.vessels[name] = len(r.Vessels)
	r.Vessels = append(r.Vessels, api.DrumVessel{Name: name, Kind: kindNamed(kind)})
}

func (r *reader) vessel(name string) int {
	vessel, is := r.vessels[name]
	if !is {
		panic(api.ErrForm)
	}
	return vessel
}

func kindNamed(word string) int {
	for i, kind := range kinds {
		if kind == word {
			return api.DrumStand + i
		}
	}
	panic(api.ErrForm)
}

func number(token string) int {
	n, err := strconv.Atoi(token)
	if err != nil {
		panic(api.ErrForm)
	}
	return n
}
