package forester

import (
	"iter"
	"slices"
	"strconv"
	"strings"

	"pinaster/api"
	"pinaster/stand"
)

const (
	apart      = " " // what is between two tokens
	colon      = ":"
	mostDigits = 9
)

// kind is one of lines: what follows its first token, written as the document does, and what is done.
type kind struct {
	form string
	do   func(*work) string
}

// work is a line that is done: what it says, and the books as they will be then.
type work struct {
	books
	terms
	order
}

// order is what a line says: its names and numbers, one after the other.
type order struct {
	names   []string
	numbers []int
}

// reader reads a line token by token, and leaves it where it is none.
type reader struct {
	order
	tokens []string // those that are not read yet
}

// changes returns the kinds of lines that change something, by their first tokens.
func changes() map[string]kind {
	return map[string]kind{
		"day":    {"X", (*work).setDay},
		"plant":  {"T", (*work).plant},
		"open":   {"T", (*work).open},
		"rest":   {"T", (*work).rest},
		"die":    {"T", (*work).die},
		"fell":   {"T", (*work).fell},
		"tapper": {"N", (*work).addTapper},
		"give":   {"T N", (*work).give},
		"hang":   {"T X", (*work).hang},
		"empty":  {"T R W", (*work).empty},
		"distil": {"B S F D : N ..", (*work).distil},
		"test":   {"B P R X", (*work).test},
		"grade":  {"B", (*work).grade},
		"fill":   {"K B G", (*work).fill},
		"pay":    {"B", (*work).pay},
	}
}

// questions returns the kinds of all other lines.
func questions() map[string]kind {
	return map[string]kind{
		"owes":   {"N", (*work).tellDebt},
		"tree":   {"T", (*work).tellTree},
		"trace":  {"K", (*work).tellTrace},
		"totals": {"", (*work).tellTotals},
	}
}

// Do does a line.
func (f *Forest) Do(line string) (string, api.Errno) {
	if !f.isMade() {
		return "", api.ErrNil
	}
	return attempt(f.do, line)
}

// attempt returns the answer to a line, or the error with which it was left.
func attempt(do func(line string) string, line string) (answer string, e api.Errno) {
	defer func() {
		if left := recover(); left != nil {
			e = errorOf(left)
		}
	}()
	return do(line), api.OK
}

// errorOf returns the error with which a line was left. If it was left by anything else, it cannot be done as the books are.
func errorOf(left any) api.Errno {
	if e, is := left.(api.Errno); is {
		return e
	}
	return api.ErrState
}

func (f *Forest) do(line string) string {
	if k, o, is := read(line, questions()); is {
		return k.do(f.work(o))
	}
	return f.change(line)
}

// change does a line that changes something. The forest gets the new books last, when nothing can be wrong any more.
func (f *Forest) change(line string) string {
	k, o, is := read(line, changes())
	need(is, api.ErrLine)
	need(len(f.journal) < api.ForestJournal, api.ErrFull)
	w := f.work(o)
	answer := k.do(w)
	need(w.totals == w.counted(), api.ErrState)
	w.journal = with(w.journal, strings.Clone(line))
	f.books = w.books
	return answer
}

// work returns the work of a line. It shares with the forest only memory that is not written any more.
func (f *Forest) work(o order) *work {
	b := f.books
	b.trees, b.tappers, b.batches = slices.Clone(b.trees), slices.Clone(b.tappers), slices.Clone(b.batches)
	return &work{b, f.terms, o}
}

// read returns the kind of a line, if it is one of some, and what the line says.
func read(line string, kinds map[string]kind) (k kind, o order, is bool) {
	need(len(line) <= api.ForestLine, api.ErrLine)
	r := reader{tokens: slices.Collect(tokens(line))}
	if k, is = kinds[r.next()]; !is {
		return kind{}, order{}, false
	}
	for part := range tokens(k.form) {
		r.way(part)()
	}
	need(len(r.tokens) == 0, api.ErrLine)
	return k, r.order, true
}

// tokens produces what is before, between and after the blanks of a text; of an empty text nothing.
func tokens(text string) iter.Seq[string] {
	return func(yield func(string) bool) {
		for more := text != ""; more; {
			var token string
			token, text, more = strings.Cut(text, apart)
			if !yield(token) {
				return
			}
		}
	}
}

// way returns how a part of a form is read.
func (r *reader) way(part string) func() {
	switch part {
	case "T", "N", "B", "K":
		return r.name
	case "..":
		return r.moreNames
	case colon:
		return r.colon
	}
	return r.number
}

func (r *reader) next() string {
	need(len(r.tokens) > 0, api.ErrLine)
	token := r.tokens[0]
	r.tokens = r.tokens[1:]
	return token
}

// name keeps a copy, because a part of the line would keep all of it in memory.
func (r *reader) name() {
	token := r.next()
	need(token != "" && token != colon, api.ErrLine)
	r.names = append(r.names, strings.Clone(token))
}

func (r *reader) moreNames() {
	for len(r.tokens) > 0 {
		r.name()
	}
}

func (r *reader) colon() { need(r.next() == colon, api.ErrLine) }

func (r *reader) number() {
	token := r.next()
	need(len(token) <= mostDigits, api.ErrLine)
	n, err := strconv.Atoi(token)
	need(err == nil && strconv.Itoa(n) == token && n >= 0, api.ErrLine)
	r.numbers = append(r.numbers, n)
}

// needNew leaves a line unless a name can be that of one more of so many at most.
func (w *work) needNew(name string, many, most int) {
	need(!w.has(name), api.ErrTwice)
	need(stand.IsWord(name), api.ErrForm)
	need(many < most, api.ErrFull)
}

// known leaves a line with an index of what there is not.
func known(index int) int {
	need(index >= 0, api.ErrUnknown)
	return index
}

// with returns a new list with an element more. The old one is handed on without the room behind it, so that nothing is written there.
func with[T any](list []T, element T) []T {
	return append(list[:len(list):len(list)], element)
}

// withOnce returns a list with an element more, unless it has it.
func withOnce(list []int, element int) []int {
	if slices.Contains(list, element) {
		return list
	}
	return with(list, element)
}

func words(tokens ...string) string { return strings.Join(tokens, apart) }

func numbers(list ...int) string {
	var tokens []string
	for _, n := range list {
		tokens = append(tokens, strconv.Itoa(n))
	}
	return words(tokens...)
}
