package kiln_test

import (
	"fmt"
	"strings"
	"testing"

	"kiln/api"
)

// M4, P25.2: an act that a mark refuses, at whichever allocation, has changed
// nothing but the mark, which is used up; and each act has just so many.
func TestRefusedByMarks(t *testing.T) {
	for _, c := range []struct {
		a     api.Act
		makes int // how many objects
	}{
		{defines("Q", "P", "z newName"), 3}, {defines("Q", "P", ""), 2}, {global("H"), 1},
		{lays("P", "newName ^x"), 5}, {lays("P", "sum ^y"), 3}, {lays("P", "newName: newName ^#(1 'a' #newName #(2) #())"), 9}, {lays("Object", "foo ^'a'"), 7},
		{removes("P", "sum"), 2}, {spawns("^3"), 6}, {spawns("^'newName' newName"), 8}, {spawns("^#newName"), 6},
		{reshapes("P", "y newName x"), 7}, {reshapes("P", "x y"), 0},
		{api.Act{Kind: api.ActCollect}, 0}, {api.Act{Kind: api.ActInspect}, 0}, {api.Act{Kind: api.ActSave}, 0},
	} {
		m := begun(t, 3000, 300)
		save(t, m)
		before := m.Saved()
		for k := 1; k <= c.makes; k++ {
			takes(t, m, marks(k))
			answers(t, m, c.a, api.ErrMarked)
			save(t, m)
			if m.Saved() != before {
				t.Fatalf("M4: %s with the mark %d has changed something", line(c.a), k)
			}
		}
		takes(t, m, marks(c.makes+3))
		takes(t, m, c.a)
		if p := save(t, m); p.mark != 3 {
			t.Fatalf("M3: behind %s the mark is %d, want 3", line(c.a), p.mark)
		}
	}
}

// M4: an act that is refused for another reason gives back the symbols that it
// added, and what it counted of the mark.
func TestRefusedByOthers(t *testing.T) {
	m := begun(t, 20000, 2000)
	for i := range api.MaxMethods {
		takes(t, m, lays("Object", fmt.Sprintf("m%d", i)))
	}
	takes(t, m, marks(1000))
	save(t, m)
	before := m.Saved()
	for _, c := range []doing{
		{lays("Object", "newName: newOther ^#('a' #(#newThird)) newText: #newFourth with: q"), refusalAt(api.ErrUnknown, 65)},
		{lays("Object", "newName ^#(#newSymbol 'a')"), refusal(api.ErrCount)},
		{lays("P", "newName ^#newSymbol foo: q"), refusalAt(api.ErrUnknown, 25)},
		{defines("NewClass", "P", "newField x"), refusal(api.ErrInherited)},
		{global("newGlobal"), refusal(api.ErrName)},
		{spawns("^#newSymbol newSelector: q"), refusalAt(api.ErrUnknown, 25)},
		{spawns("^#newSymbol , " + strings.Repeat("'a',", 64) + "'b'"), refusalAt(api.ErrLong, 14+64*4)},
		{reshapes("P", "newField"), api.Answer{Refusal: api.Refusal{Code: api.ErrUnknown, Class: "P", Selector: "sum", At: 5}}},
		{removes("P", "newSelector"), refusal(api.ErrSelector)},
		{api.Act{Kind: api.ActLoad, Text: "x"}, refusal(api.ErrImage)},
		{marks(-3), refusal(api.ErrArg)},
		{api.Act{Kind: 99}, refusal(api.ErrStep)},
		{runs(1, 3), refusal(api.ErrProcess)},
	} {
		wants(t, m, c.a, c.want)
		save(t, m)
		if m.Saved() != before {
			t.Fatalf("M4: %s has changed something", line(c.a))
		}
	}
}

// M4: where there is no room, at whichever allocation, nothing has changed; in
// the room that is just enough the act is taken.
func TestRefusedByRoom(t *testing.T) {
	m := begun(t, 3000, 300)
	takes(t, m, marks(500))
	words, oops := save(t, m).free()
	text := m.Saved()
	for _, c := range []struct {
		a           api.Act
		words, oops int
	}{
		{defines("Q", "P", "z newName"), 4 + 9 + 2 + 16, 3}, {global("H"), 2 + 4, 1},
		{lays("P", "newName ^x"), 2 + 3 + 2 + 3 + 11 + 5 + 5, 5}, {lays("P", "sum ^y"), 2 + 3 + 2 + 2 + 11, 3},
		{removes("P", "sum"), 3 + 3, 2}, {spawns("^'abcde'"), 4 + 3 + 2 + 3 + 2 + 2 + 11 + 9 + 2 + 1 + 3 + 4, 8},
	} {
		for k := max(c.words-20, 0); k < c.words+2; k++ {
			inRoom(t, text, 3000-words+k, 300, c.a, k >= c.words)
		}
		for k := range c.oops + 2 {
			inRoom(t, text, 3000, 300-oops+k, c.a, k >= c.oops)
		}
	}
}

// inRoom does an act in an image whose room is another one.
func inRoom(t *testing.T, text string, words, oops int, a api.Act, taken bool) {
	t.Helper()
	m := loaded(t, strings.Replace(text, "room 3000 300 ", fmt.Sprintf("room %d %d ", words, oops), 1), 160, 20)
	save(t, m)
	before := m.Saved()
	if taken {
		takes(t, m, a)
		return
	}
	answers(t, m, a, api.ErrFull)
	if save(t, m); m.Saved() != before {
		t.Fatalf("M4: %s in the room %d, %d has changed something", line(a), words, oops)
	}
}

// M4: a process that fails is no refused act: what it did stays done, its
// symbols and what it counted of the mark too.
func TestFailedStaysDone(t *testing.T) {
	m := begun(t, 3000, 300)
	takes(t, m, spawns("G x: 7 y: 8. 'newName' asSymbol. 3 printString. 7 // 0"))
	takes(t, m, marks(100))
	wants(t, m, runs(2, 99), api.Answer{Refusal: api.Refusal{Code: api.ErrZero}, Number: 2, State: api.Failed, Used: 4})
	told(t, m, "G = @1\n@1 P x=7 y=8\n")
	p := save(t, m)
	if p.mark != 98 || p.symbols[len(p.symbols)-1] != "newName" {
		t.Fatalf("M4: the mark is %d, the last symbol %q", p.mark, p.symbols[len(p.symbols)-1])
	}
}
