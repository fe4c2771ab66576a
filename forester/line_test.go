package forester_test

import (
	"strings"
	"testing"

	"pinaster/api"
)

// P11.2

func TestExamples(t *testing.T) {
	expectAll(t, begin(t, setup()),
		"plant a", "1", "plant b", "1", "tapper mo", "",
		"day 1000", "", "open a", "!115",
		"day 1500", "", "open a", "2", "give a mo", "", "hang a 900", "",
		"empty a 700 150", "", "empty a 300 0", "",
		"distil z 200 10 40 : mo", "750", "grade z", "!117",
		"test z 0 250 10", "0 1 2", "test z 1 750 20", "0 1 2", "test z 2 165 3", "0 1 2", "test z 3 2 1", "0",
		"grade z", "0", "fill k z 500", "250", "pay z", "0 67 0",
		"owes mo", "133 0", "trace k", "z : mo : a", "totals", "0 0 150 200 10 40 250 500 200 0 67 0")
}

// samples are lines of all kinds; each one can be done after all those before it.
func samples() []string {
	return joined(tapped(900), []string{
		"empty a 700 150", "distil z 200 10 40 : mo", "test z 0 250 10", "grade z", "fill k z 50", "pay z",
		"owes mo", "tree a", "trace k", "totals", "rest a", "die a", "fell a",
	})
}

// withOneGrade is the chapter's setup with one grade for all, so that the samples can be done.
func withOneGrade() api.ForestSetup {
	s := setup()
	s.Grades = always().Grades
	return s
}

func TestSamplesAreLines(t *testing.T) {
	seen := map[string]bool{}
	f := begin(t, withOneGrade())
	for _, line := range samples() {
		do(t, f, line)
		word, _, _ := strings.Cut(line, " ")
		seen[word] = true
	}
	if len(seen) != len(words) {
		t.Errorf("kinds of lines: %v", seen)
	}
}

// wrongLines are made of a line such that none of them is one.
func wrongLines(line string) []string {
	all := []string{" " + line, line + " ", "\t" + line, line + "\n", line + " 1", line + " :", line + " : x", "x " + line, strings.ToUpper(line)}
	tokens := strings.Split(line, " ")
	for i, token := range tokens {
		change := func(to ...string) string {
			return strings.Join(append(append(append([]string{}, tokens[:i]...), to...), tokens[i+1:]...), " ")
		}
		all = append(all, change(), change("", token), change(token, ""), change(""), change(":"+token, ":"), change(token, ":", token))
		if i > 0 {
			all = append(all, strings.Join(tokens[:i], " ")+"\t"+strings.Join(tokens[i:], " "))
		}
		switch {
		case i == 0:
			all = append(all, change("x"), change(token+"x"), change(token[1:]), change("1"), change(strings.ToUpper(token[:1])+token[1:]))
		case token == ":":
			all = append(all, change("x"), change("1"), change("::"), change(";"))
		case token[0] >= '0' && token[0] <= '9':
			for _, no := range []string{":", "x", "0" + token, "+" + token, "-" + token, token + ".", token + "x", "0x" + token, token + "_0", "1234567890", "0000000000", "00", "-0", "1,0", "１", "٣", "12345678901234567890"} {
				all = append(all, change(no))
			}
		default:
			all = append(all, change(":"))
		}
	}
	return all
}

func TestWrongLines(t *testing.T) {
	f, tried := begin(t, withOneGrade()), 0
	for _, line := range samples() {
		for _, wrong := range wrongLines(line) {
			if !isLine(wrong) {
				expectErrors(t, f, api.ErrLine, wrong)
				tried++
			}
		}
		do(t, f, line)
	}
	if tried < 700 {
		t.Errorf("%d lines were tried", tried)
	}
	expectErrors(t, f, api.ErrLine, "", " ", ":", "  ", "\x00", "day\x00 1", "é", "\xff", "Totals", "total", "totalsx", "day", "day x", "days 1", "distil z 1 1 1 : :", "distil z 1 1 1 : mo :", "distil z 1 1 1 : mo : mo", "distil z 1 1 1 mo", "distil z 1 1 : mo", "distil z 1 1 1 1 : mo", "distil z 1 1 1 :", "distil : 1 1 1 : mo")
}

// isLine reports whether what was made of a line is one, such as one with a tab in a name, or with one more tapper.
func isLine(line string) bool {
	word, _, _ := strings.Cut(line, " ")
	form := forms[word]
	return form != nil && form.MatchString(line) && !strings.HasSuffix(line, " ")
}

func TestNamesOfAnyBytes(t *testing.T) {
	f := begin(t, setup(), tapped(5)...)
	for _, name := range []string{"A", "1a", "-", "a_b", "a\tb", "a\n", "::", ":a", "a:", "\xff", "é", "abcdefghijklmnopq", "\x00", "day:", "0", "900"} {
		expectErrors(t, f, api.ErrForm, "plant "+name, "tapper "+name, "distil "+name+" 0 0 0 : mo", "fill "+name+" z 1", "distil "+name+" 0 0 0 : zz")
		expectErrors(t, f, api.ErrUnknown, "open "+name, "rest "+name, "die "+name, "fell "+name, "give "+name+" mo", "give a "+name, "hang "+name+" 1", "empty "+name+" 1 1",
			"distil z 0 0 0 : "+name, "test "+name+" 0 0 0", "grade "+name, "fill k "+name+" 1", "pay "+name, "owes "+name, "tree "+name, "trace "+name)
	}
	for _, name := range []string{"plant", "day", "totals", "x", "a-", "a1234567890bcdef", "t", "b", "n"} { // words of lines are names as well
		expectAll(t, f, "plant "+name, "1", "tree "+name, "1", "tapper "+name, "!112")
	}
}

func TestLengthOfLines(t *testing.T) {
	f := begin(t, setup())
	for _, x := range []struct {
		begin string
		e     api.Errno
	}{
		{"plant ", api.ErrForm}, {"tapper ", api.ErrForm}, {"distil z 0 0 0 : ", api.ErrUnknown}, {"tree ", api.ErrUnknown}, {"give a ", api.ErrUnknown},
	} {
		expectErrors(t, f, x.e, x.begin+strings.Repeat("x", 300-len(x.begin)))
		expectErrors(t, f, api.ErrLine, x.begin+strings.Repeat("x", 301-len(x.begin)), x.begin+strings.Repeat("x", 100000))
	}
	long := strings.Repeat("n ", 141) + "n"
	expectErrors(t, f, api.ErrUnknown, "distil z 0 0 0 : "+long)
	expectErrors(t, f, api.ErrLine, "distil z 10 0 0 : "+long)
	do(t, f, numbered(0, 256, "day 0")...)
	expectErrors(t, f, api.ErrLine, "plant "+strings.Repeat("x", 295))
}

func TestGreatNumbers(t *testing.T) {
	f := begin(t, setup(), tapped(1000000)...)
	expectErrors(t, f, api.ErrRange, "day 999999999", "day 36501", "day 1499", "day 0")
	expectErrors(t, f, api.ErrHeavy, "empty a 999999999 999999999", "empty a 999999999 0", "empty a 0 999999999", "empty a 1000000 1", "empty a 1 1000000")
	expectAll(t, f, "empty a 1000000 0", "", "empty a 0 1000000", "", "empty a 500000 500000", "")
	expectErrors(t, f, api.ErrHeavy, "distil z 999999999 999999999 999999999 : mo", "distil z 1500001 0 0 : mo", "distil z 0 1500001 0 : mo", "distil z 0 0 1500001 : mo", "distil z 500000 500000 500001 : mo")
	expectAll(t, f, "distil z 500000 500000 499999 : mo", "1")
	expectErrors(t, f, api.ErrRosinTest, "test z 999999999 0 0", "test z 0 999999999 0", "test z 0 0 999999999", "test z 4 0 0", "test z 0 2001 0", "test z 0 0 101")
	expectErrors(t, f, api.ErrHeavy, "fill k z 999999999", "fill k z 2", "fill k z 0")
	expectAll(t, f, "fill k z 1", "0")
}
