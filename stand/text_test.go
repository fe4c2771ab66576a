package stand_test

import (
	"slices"
	"strings"
	"testing"

	"pinaster/api"
	"pinaster/stand"
)

const (
	exampleText = "stand grow 8 12 press 3 near 30\n" +
		"tree a 0 0 girth 900 920 crown 40\n" +
		"tree b 30 0 girth 1000 1000 crown 30\n" +
		"tree c 60 0 girth 700 760 crown 50\n"
	greatText = "stand grow 100 100 press 100 near 100000\n" +
		"tree abcdefghijklmnop 100000 99999 girth 1 4000 crown 100\n" +
		"tree a-0 0 100000 girth 4000 4000 crown 0\n"
)

func greatStand() api.Stand {
	return api.Stand{Grow: span(100, 100), Press: 100, Near: 100000, Trees: []api.Tree{
		{Tag: "abcdefghijklmnop", X: 100000, Y: 99999, Girth: span(1, 4000), Crown: 100},
		{Tag: "a-0", X: 0, Y: 100000, Girth: span(4000, 4000), Crown: 0},
	}}
}

// P1.6

func TestTexts(t *testing.T) {
	alone := example()
	alone.Trees = alone.Trees[:1]
	for _, x := range []struct {
		s    api.Stand
		text string
	}{
		{alone, "stand grow 8 12 press 3 near 30\ntree a 0 0 girth 900 920 crown 40\n"},
		{example(), exampleText},
		{greatStand(), greatText},
		{api.Stand{}, "stand grow 0 0 press 0 near 0\n"},
		{api.Stand{Trees: []api.Tree{}}, "stand grow 0 0 press 0 near 0\n"},
	} {
		if text, e := stand.Print(x.s); text != x.text || e != api.OK {
			t.Errorf("Print: %q, %d, want %q", text, e, x.text)
		}
		if s, e := stand.Parse(x.text); !sameStand(s, x.s) || e != api.OK {
			t.Errorf("Parse of %q: %v, %d", x.text, s, e)
		}
	}
}

// isNoText checks that a text is read as no stand.
func isNoText(t *testing.T, text string, e api.Errno) {
	t.Helper()
	if s, got := stand.Parse(text); !isZeroStand(s) || got != e {
		t.Errorf("Parse of %.80q (%d bytes): %v, %d, want %d", text, len(text), s, got, e)
	}
}

func TestParseWrongForm(t *testing.T) {
	change := func(old, new string) string { return strings.Replace(exampleText, old, new, 1) }
	for _, text := range []string{
		"", "\n", " ", "stand", "stand grow", "stand grow 8 12 press 3 near 30", "stand grow 8 12 press 3 near 30 \n", " stand grow 8 12 press 3 near 30\n",
		"tree a 0 0 girth 900 920 crown 40\n",
		exampleText[:len(exampleText)-1], exampleText + "\n", exampleText + " ", exampleText + "tree", "\n" + exampleText, exampleText + "\x00",
		exampleText + "stand grow 8 12 press 3 near 30\n", exampleText + "tree d ",
		strings.ReplaceAll(exampleText, "\n", "\r\n"), strings.ReplaceAll(exampleText, " ", "\t"), strings.ReplaceAll(exampleText, "\n", ";"),
		strings.ToUpper(exampleText), "\ufeff" + exampleText,
		change("30\ntree", "30\n\ntree"), change("grow 8", "grow  8"), change("grow", "grew"), change("press", "pres"), change("near", "far"),
		change("girth", "crown"), change("crown", "girth"), change("tree", "trees"), change("crown 40\n", "crown 40 "),
		change("grow 8 12", "grow 08 12"), change("grow 8 12", "grow +8 12"), change("grow 8 12", "grow -8 12"), change("grow 8 12", "grow 8 "), change("grow 8 12", "grow 8"), change("grow 8 12", "grow 0x8 12"), change("grow 8 12", "grow 8.0 12"), change("grow 8 12", "grow 8e0 12"), change("grow 8 12", "grow \u0668 12"), change("press 3", "press 00"), change("press 3", "press 1_0"), change("press 3", "press "),
		change("press 3", "press -0"), change("tree a 0 0", "tree a 00 0"), change("tree a 0 0", "tree a 0 -0"), change("crown 40", "crown 040"),
	} {
		isNoText(t, text, api.ErrForm)
	}
}

func TestParseInvalidStands(t *testing.T) {
	change := func(old, new string) string { return strings.Replace(exampleText, old, new, 1) }
	for _, text := range []string{
		change("grow 8 12", "grow 13 12"), change("grow 8 12", "grow 8 101"), change("press 3", "press 101"), change("near 30", "near 100001"),
		change("tree b", "tree a"), change("tree b 30", "tree b 0"), change("tree a", "tree A"), change("tree a", "tree "), change("tree a", "tree 1"), change("tree a", "tree abcdefghijklmnopq"),
		change("a 0 0", "a 100001 0"), change("a 0 0", "a 0 100001"), change("girth 900 920", "girth 0 920"), change("girth 900 920", "girth 921 920"), change("girth 900 920", "girth 900 4001"), change("crown 40", "crown 101"),
		// numbers that do not fit into 32 or 64 bits
		change("press 3", "press 4294967299"), change("press 3", "press 18446744073709551619"), change("near 30", "near "+strings.Repeat("9", 60000)),
	} {
		isNoText(t, text, api.ErrForm)
	}
	full := "stand grow 8 12 press 3 near 30\n"
	for i := range 14 {
		full += "tree " + string(rune('a'+i)) + " 0 " + string(rune('0'+i%10)) + strings.Repeat("0", i/10) + " girth 1 1 crown 0\n"
	}
	full = strings.Replace(full, "tree k 0 00", "tree k 1 0", 1)
	if s, e := stand.Parse(full); len(s.Trees) != 14 || e != api.OK {
		t.Errorf("Parse of %q: %v, %d", full, s, e)
	}
	isNoText(t, full+"tree z 0 500 girth 1 1 crown 0\n", api.ErrForm)
}

func TestParseLimit(t *testing.T) {
	for _, part := range []string{"a", exampleText, "\x00", "stand grow "} {
		long := strings.Repeat(part, 70000/len(part)+1)
		isNoText(t, long[:65536], api.ErrForm)
		isNoText(t, long[:65537], api.ErrLimit)
		isNoText(t, long, api.ErrLimit)
	}
	isNoText(t, exampleText+strings.Repeat("\n", 65537-len(exampleText)), api.ErrLimit)
}

// P1.12

func TestTextsThereAndBack(t *testing.T) {
	d := &dice{7}
	for range 200 {
		s := d.stand(d.upTo(14))
		text, e := stand.Print(s)
		if e != api.OK {
			t.Fatalf("Print of %v: %d", s, e)
		}
		if back, e := stand.Parse(text); !sameStand(back, s) || e != api.OK {
			t.Fatalf("Parse of %q: %v, %d", text, back, e)
		}
	}
}

func TestNothingElseIsRead(t *testing.T) {
	bytes := []byte("0129 +-\n\r\tazA_.\x00\xff")
	for _, text := range []string{exampleText, greatText} {
		for i := range len(text) + 1 {
			var others []string
			for _, c := range bytes {
				others = append(others, text[:i]+string([]byte{c})+text[i:])
				if i < len(text) {
					others = append(others, text[:i]+string([]byte{c})+text[i+1:])
				}
			}
			if i < len(text) {
				others = append(others, text[:i]+text[i+1:], text[:i])
			}
			for _, other := range others {
				readsAsPrinted(t, other)
			}
		}
	}
}

// readsAsPrinted checks that a text, if it is one of a stand, is just the one that is printed of it.
func readsAsPrinted(t *testing.T, text string) {
	s, e := stand.Parse(text)
	if e == api.ErrForm {
		if !isZeroStand(s) {
			t.Errorf("%q: %v", text, s)
		}
		return
	}
	if printed, e2 := stand.Print(s); e != api.OK || printed != text || e2 != api.OK {
		t.Errorf("%q is read as that of %v: %d, %q, %d", text, s, e, printed, e2)
	}
}

// P1.7

func TestArgumentsAreOnlyRead(t *testing.T) {
	room := append(slices.Clone(example().Trees), example().Trees...)
	s := example()
	s.Trees = room[:3]
	kept := append(make([]int, 0, 8), 0, 2)
	acts := append(make([]api.TreeAct, 0, 8), act(0, "x", 1), act(0, "y", 1))
	for tree := range 3 {
		stand.Near(s, tree)
		stand.Girth(s, tree, 5)
		stand.Faces(exampleRule(), s, tree, 5)
		stand.Ready(exampleRule(), s, tree, 2)
	}
	stand.Check(s)
	stand.Thin(s, 30)
	stand.Left(s, kept)
	stand.Left(s, []int{2})
	stand.Print(s)
	stand.Follow(acts)
	stand.Follow(acts[:1])
	if !slices.Equal(room, append(slices.Clone(example().Trees), example().Trees...)) {
		t.Errorf("trees were changed: %v", room)
	}
	if !slices.Equal(kept[:8], []int{0, 2, 0, 0, 0, 0, 0, 0}) {
		t.Errorf("kept was changed: %v", kept[:8])
	}
	want := append([]api.TreeAct{act(0, "x", 1), act(0, "y", 1)}, make([]api.TreeAct, 6)...)
	if !slices.Equal(acts[:8], want) {
		t.Errorf("acts were changed: %v", acts[:8])
	}
}

func TestResultsAreNew(t *testing.T) {
	s := example()
	for range 3 { // what is done with a result shows neither in the stand nor in the next result
		near, _ := stand.Near(s, 1)
		kept, worth, _ := stand.Thin(s, 30)
		all, e := stand.Left(s, []int{0, 1, 2})
		tags, states, _, _ := stand.Follow([]api.TreeAct{act(0, "x", 1), act(0, "y", 1)})
		read, _ := stand.Parse(exampleText)
		if !slices.Equal(near, []int{0, 2}) || !slices.Equal(kept, []int{0, 2}) || worth != 1600 || e != api.OK || !sameStand(all, example()) ||
			!slices.Equal(tags, []string{"x", "y"}) || !slices.Equal(states, []int{1, 1}) || !sameStand(read, example()) {
			t.Fatalf("%v, %v, %v, %v, %v, %v", near, kept, all, tags, states, read)
		}
		near[0], kept[0], tags[0], states[0] = 9, 9, "z", 9
		_, _, _, _ = append(near, 9), append(kept, 9), append(tags, "z"), append(states, 9)
		all.Trees[0].Tag, read.Trees[0].Tag = "z", "z"
		_ = append(all.Trees[:1], api.Tree{})
		if !sameStand(s, example()) {
			t.Fatalf("the stand was changed: %v", s)
		}
	}
	some, _ := stand.Left(s, []int{0, 1})
	s.Trees[0].Tag = "q"
	if some.Trees[0].Tag != "a" {
		t.Errorf("the stand that is left changes with the other one: %v", some)
	}
}

// P2

func TestSameArgumentsSameResults(t *testing.T) {
	d := &dice{8}
	for range 20 {
		s, r := d.light(1+d.upTo(13)), d.rule()
		gap := d.upTo(6)
		kept, worth, _ := stand.Thin(s, gap)
		ready, _ := stand.Ready(r, s, 0, 1)
		stand.Thin(wrongStand(), gap)
		stand.Parse("stand grow ")
		stand.Ready(r, example(), 0, 1)
		again, worthAgain, _ := stand.Thin(s, gap)
		readyAgain, _ := stand.Ready(r, s, 0, 1)
		if !slices.Equal(kept, again) || worth != worthAgain || ready != readyAgain {
			t.Errorf("%v: %v, %d, %v and then %v, %d, %v", s, kept, worth, ready, again, worthAgain, readyAgain)
		}
	}
}
