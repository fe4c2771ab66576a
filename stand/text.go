package stand

import (
	"strconv"
	"strings"

	"pinaster/api"
)

// mostDigits is more than a number of a stand has, and few enough for any int.
const mostDigits = 9

// Print returns the text of a stand.
func Print(s api.Stand) (string, api.Errno) {
	if e := Check(s); e != api.OK {
		return "", e
	}
	number := strconv.Itoa
	text := line("stand", "grow", number(s.Grow.Low), number(s.Grow.High),
		"press", number(s.Press), "near", number(s.Near))
	for _, t := range s.Trees {
		text += line("tree", t.Tag, number(t.X), number(t.Y),
			"girth", number(t.Girth.Low), number(t.Girth.High), "crown", number(t.Crown))
	}
	return text, api.OK
}

func line(tokens ...string) string { return strings.Join(tokens, " ") + "\n" }

// Parse returns the stand of a text.
func Parse(text string) (s api.Stand, e api.Errno) {
	if len(text) > api.MaxFile {
		return api.Stand{}, api.ErrLimit
	}
	defer func() {
		if recover() != nil {
			s, e = api.Stand{}, api.ErrForm
		}
	}()
	s = readStand(text)
	if Check(s) != api.OK {
		return api.Stand{}, api.ErrForm
	}
	return s, api.OK
}

// reader reads a text from its front, and panics where the text has another form.
type reader struct{ rest string }

func readStand(text string) api.Stand {
	r := &reader{text}
	expect, number, span := r.expect, r.number, r.span
	var s api.Stand
	expect("stand grow ")
	s.Grow = span()
	expect(" press ")
	s.Press = number()
	expect(" near ")
	s.Near = number()
	expect("\n")
	for r.rest != "" {
		s.Trees = append(s.Trees, r.tree())
	}
	return s
}

func (r *reader) tree() api.Tree {
	expect, number := r.expect, r.number
	var t api.Tree
	expect("tree ")
	t.Tag = r.tag()
	expect(" ")
	t.X = number()
	expect(" ")
	t.Y = number()
	expect(" girth ")
	t.Girth = r.span()
	expect(" crown ")
	t.Crown = number()
	expect("\n")
	return t
}

func (r *reader) expect(part string) {
	rest, ok := strings.CutPrefix(r.rest, part)
	if !ok {
		panic(api.ErrForm)
	}
	r.rest = rest
}

// tag returns a copy, because a part of the text would keep all of it in memory.
func (r *reader) tag() string {
	end := strings.IndexByte(r.rest, ' ')
	if end < 0 {
		panic(api.ErrForm)
	}
	return strings.Clone(r.take(end))
}

func (r *reader) span() api.Span {
	low := r.number()
	r.expect(" ")
	return api.Span{Low: low, High: r.number()}
}

func (r *reader) number() int {
	end := 0
	for end < len(r.rest) && isDigit(r.rest[end]) {
		end++
	}
	digits := r.take(end)
	if end < 1 || end > mostDigits || end > 1 && digits[0] == '0' {
		panic(api.ErrForm)
	}
	n := 0
	for i := range end {
		n = 10*n + int(digits[i]-'0')
	}
	return n
}

func (r *reader) take(bytes int) string {
	part := r.rest[:bytes]
	r.rest = r.rest[bytes:]
	return part
}
