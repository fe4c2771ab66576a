package drum_test

import (
	"slices"
	"strconv"
	"strings"
	"testing"

	"pinaster/api"
	"pinaster/drum"
)

// greatest is a log with all vessels and pours, and the text of it.
func greatest() (api.DrumLog, string) {
	l, text := logOf(strings.Repeat("sdt", 8)), ""
	for i := range l.Vessels {
		name := "abcdefghijklmn" + strconv.Itoa(10+i)
		l.Vessels[i].Name = name
		text += []string{"stand ", "drum ", "tank "}[i%3] + name + "\n"
	}
	for i := range 64 {
		p := pour(i%8*3, i%8*3+1+i%2, 1000000-i)
		l.Pours = append(l.Pours, p)
		text += "pour " + l.Vessels[p.From].Name + " " + l.Vessels[p.To].Name + " " + strconv.Itoa(p.Grams) + "\n"
	}
	return l, text + "end\n"
}

// P10.6

func TestTexts(t *testing.T) {
	great, greatText := greatest()
	words := logOf("sdtk", pour(0, 1, 1), pour(1, 2, 10), pour(2, 3, 1000000))
	words.Vessels[0].Name, words.Vessels[1].Name, words.Vessels[2].Name, words.Vessels[3].Name = "stand", "pour", "end", "a-0"
	for _, x := range []struct {
		l    api.DrumLog
		text string
	}{
		{example(), exampleText},
		{great, greatText},
		{words, "stand stand\ndrum pour\ntank end\nsink a-0\npour stand pour 1\npour pour end 10\npour end a-0 1000000\nend\n"},
		{logOf("k"), "sink v0\nend\n"}, {logOf("t"), "tank v0\nend\n"}, {logOf("d"), "drum v0\nend\n"}, {logOf("s"), "stand v0\nend\n"},
		{logOf("ds", pour(1, 0, 7)), "drum v0\nstand v1\npour v1 v0 7\nend\n"},
		{logOf("ttt", pour(1, 0, 7), pour(2, 1, 7)), "tank v0\ntank v1\ntank v2\npour v1 v0 7\npour v2 v1 7\nend\n"}, // not possible
	} {
		if text, e := drum.Print(x.l); text != x.text || e != api.OK {
			t.Errorf("Print: %q, %d, want %q", text, e, x.text)
		}
		if l, e := drum.Parse(x.text); !sameLog(l, x.l) || e != api.OK {
			t.Errorf("Parse of %q: %v, %d", x.text, l, e)
		}
	}
}

func TestPrintOfWrongLogs(t *testing.T) {
	for _, l := range wrongLogs() {
		if text, e := drum.Print(l); text != "" || e != api.ErrDrum {
			t.Errorf("Print of %v: %q, %d", l, text, e)
		}
	}
}

// isNoText checks that a text is read as no log.
func isNoText(t *testing.T, text string, e api.Errno) {
	t.Helper()
	if l, got := drum.Parse(text); len(l.Vessels)+len(l.Pours) != 0 || got != e {
		t.Errorf("Parse of %.80q (%d bytes): %v, %d, want %d", text, len(text), l, got, e)
	}
}

func TestParseWrongForm(t *testing.T) {
	change := func(old, new string) string { return strings.Replace(exampleText, old, new, 1) }
	for _, text := range []string{
		"", "\n", " ", "end", "end\n", "stand a", "stand a\n", "stand a\nend", "stand a\nend \n", "stand a\n end\n", "stand a\nend\n\n", "stand a\n\nend\n", "\nstand a\nend\n",
		exampleText[:len(exampleText)-1], exampleText + "\n", exampleText + " ", exampleText + "end\n", exampleText + exampleText, exampleText + "sink z\n", exampleText + "\x00",
		strings.ReplaceAll(exampleText, "\n", "\r\n"), strings.ReplaceAll(exampleText, " ", "\t"), strings.ReplaceAll(exampleText, "\n", ";"), strings.ReplaceAll(exampleText, " ", "\u00a0"),
		strings.ToUpper(exampleText), "\ufeff" + exampleText,
		change("end\n", ""), change("end\n", "ends\n"), change("stand b\n", "stand b\nend\n"), change("pour b", "end\npour b"),
		change("tank t", "tank  t"), change("tank t", "tank t "), change("tank t", " tank t"), change("tank t", "tank t t"), change("tank t", "tank"), change("tank t", "tankt"), change("tank t", "tonk t"), change("tank t", "2 t"), change("tank t", "pour t"), change("tank t", " t"), change("tank t", "tank "),
		change("pour a", "pours a"), change("pour a", "a"), change("pour a t 300", "pour a t"), change("pour a t 300", "pour a t 300 300"), change("pour a t 300", "pour  t 300"), change("pour a t 300", "pour a t "), change("pour a t 300", "pour a t\n300"), change("pour a t 300", "pour a 300 t"), change("pour a t 300", "tank a t 300"), change("pour a t 300", "end a t 300"),
		change("t 300", "t 0300"), change("t 300", "t +300"), change("t 300", "t -300"), change("t 300", "t 3e2"), change("t 300", "t 0x12c"), change("t 300", "t 300.0"), change("t 300", "t 3_00"), change("t 300", "t \u0663"), change("t 300", "t 300g"),
		change("pour a", "pour c"), change("pour a", "pour 0"), change("a t", "a u"), change("a t", "a 2"), change("pour a", "pour A"),
		"stand a\npour a t 1\ntank t\nend\n", "stand a\ntank t\npour a t 1\nsink s\nend\n", // vessels come first
		"pour a t 1\nstand a\ntank t\nend\n",
	} {
		isNoText(t, text, api.ErrForm)
	}
}

func TestParseInvalidLogs(t *testing.T) {
	change := func(old, new string) string { return strings.Replace(exampleText, old, new, 1) }
	for _, text := range []string{
		change("stand b", "stand a"), change("drum d2", "drum d1"), change("sink fume", "sink t"), change("tank t", "tank T"), change("tank t", "tank 9"), change("tank t", "tank abcdefghijklmnopq"), change("tank t", "tank é"),
		change("a t 300", "a t 0"), change("a t 300", "a t 1000001"), change("a t 300", "a t 4294967596"), change("a t 300", "a t 18446744073709551916"), change("a t 300", "a t "+strings.Repeat("9", 60000)),
		change("pour a t", "pour a a"), change("pour a t", "pour a b"), change("pour a t", "pour t t"), change("pour a t", "pour fume t"), change("pour a t", "pour t a"),
	} {
		isNoText(t, text, api.ErrForm)
	}
	great, text := greatest()
	isNoText(t, strings.Replace(text, "pour", "sink z\npour", 1), api.ErrForm)
	isNoText(t, strings.Replace(text, "end\n", "pour "+great.Vessels[0].Name+" "+great.Vessels[1].Name+" 1\nend\n", 1), api.ErrForm)
	for _, kind := range []string{"stand", "drum"} {
		text := ""
		for i := range 8 {
			text += kind + " v" + strconv.Itoa(i) + "\n"
		}
		if l, e := drum.Parse(text + "end\n"); len(l.Vessels) != 8 || e != api.OK {
			t.Errorf("%v, %d", l, e)
		}
		isNoText(t, text+kind+" v8\nend\n", api.ErrForm)
	}
}

func TestParseLimit(t *testing.T) {
	for _, part := range []string{"a", exampleText, "\x00", "stand a\n", "tank t\npour t t 1\n", "\n", " "} {
		long := strings.Repeat(part, 70000/len(part)+1)
		isNoText(t, long[:65536], api.ErrForm)
		isNoText(t, long[:65537], api.ErrLimit)
		isNoText(t, long, api.ErrLimit)
	}
	isNoText(t, exampleText+strings.Repeat("\n", 65536-len(exampleText)), api.ErrForm)
	isNoText(t, exampleText+strings.Repeat("\n", 65537-len(exampleText)), api.ErrLimit)
	many := "" // different names, all of which are poured from
	for i := range 4000 {
		many += "tank v" + strconv.Itoa(i) + "\n"
	}
	isNoText(t, many+strings.Repeat("pour v0 v1 1\n", 900)+"end\n", api.ErrForm)
}

// P10.12

func TestTextsThereAndBack(t *testing.T) {
	d := &dice{10}
	for range 500 {
		l := d.log(d.from(1, 1000000))
		if len(l.Pours) > 0 && d.upTo(1) == 0 {
			l.Pours = l.Pours[d.upTo(len(l.Pours)-1):] // perhaps not possible
		}
		text, e := drum.Print(l)
		if e != api.OK {
			t.Fatalf("Print of %v: %d", l, e)
		}
		if back, e := drum.Parse(text); !sameLog(back, l) || e != api.OK {
			t.Fatalf("Parse of %q: %v, %d", text, back, e)
		}
	}
}

func TestNothingElseIsRead(t *testing.T) {
	bytes := []byte("0129 +-\n\r\tazdtA_.\x00\xff")
	_, greatText := greatest()
	for _, text := range []string{exampleText, greatText[len(greatText)-400:], "tank v0\ntank v1\npour v1 v0 10\nend\n"} {
		for i := range len(text) + 1 {
			others := []string{text[:i]}
			for _, c := range bytes {
				others = append(others, text[:i]+string([]byte{c})+text[i:], text[:i]+string([]byte{c})+text[min(i+1, len(text)):])
			}
			others = append(others, text[:i]+text[min(i+1, len(text)):])
			for _, other := range others {
				readsAsPrinted(t, other)
			}
		}
	}
	lines := strings.SplitAfter(exampleText, "\n")
	for i := range lines {
		for k := range lines {
			other := slices.Clone(lines)
			other[i], other[k] = other[k], other[i]
			readsAsPrinted(t, strings.Join(other, ""))
		}
	}
}

// readsAsPrinted checks that a text, if it is one of a log, is just the one that is printed of it.
func readsAsPrinted(t *testing.T, text string) {
	t.Helper()
	l, e := drum.Parse(text)
	if e == api.ErrForm {
		if len(l.Vessels)+len(l.Pours) > 0 {
			t.Errorf("%q: %v", text, l)
		}
		return
	}
	if printed, e2 := drum.Print(l); e != api.OK || printed != text || e2 != api.OK {
		t.Errorf("%q is read as that of %v: %d, %q, %d", text, l, e, printed, e2)
	}
}
