package plan_test

import (
	"math"
	"slices"
	"strings"
	"testing"

	"kiln/api"
	"kiln/plan"
)

// P20.2: a list that is not well made is refused whatever is asked of it, wherever in it the fault is.
func TestIllMade(t *testing.T) {
	o, a, b := of("Object", "", ""), of("A", "Object", "x y"), of("B", "A", "z")
	for what, c := range map[string][]api.ClassInfo{
		"a name that is empty, first":      {of("", "", ""), o, a},
		"a name that is empty, last":       {o, a, of("", "A", "q")},
		"two names that are empty":         {o, a, of("", "", ""), of("", "", "")},
		"one class alone that is empty":    {{}},
		"a name twice, one a superclass":   {o, a, b, of("A", "", "")},
		"a name twice, far from all":       {o, a, of("C", "", ""), of("C", "", "")},
		"the first name twice":             {o, a, of("Object", "A", "")},
		"its own superclass":               {o, a, of("C", "C", "")},
		"its own superclass, alone":        {of("A", "A", "")},
		"a superclass that is not there":   {o, a, of("C", "Nope", "")},
		"a superclass behind it":           {o, of("C", "D", ""), of("D", "Object", ""), a},
		"each other's superclass":          {o, a, of("C", "D", ""), of("D", "C", "")},
		"a superclass unlike in its case":  {o, a, of("C", "a", "")},
		"an own name twice":                {o, a, of("C", "", "q r q")},
		"an own name twice, of the first":  {of("Object", "", "q q"), a},
		"the superclass's name":            {o, a, of("C", "A", "q x")},
		"a name of far above":              {o, a, b, of("C", "B", ""), of("E", "C", "q"), of("F", "E", "y")},
		"the first one's name":             {of("Object", "", "o"), a, b, of("C", "B", "o")},
		"a name above behind another one":  {o, a, of("C", "A", "q"), of("D", "Object", "q"), of("E", "C", "q")},
		"a name above behind many others":  {o, a, of("C", "Object", "q"), of("D", "Object", "q"), of("E", "Object", "q"), of("F", "C", "r"), of("G", "D", "r"), of("H", "F", "q")},
		"a name that is empty, twice":      {o, a, {Name: "C", Own: []string{"", ""}}},
		"a name that is empty, above, too": {o, a, {Name: "C", Own: []string{""}}, {Name: "D", Super: "C", Own: []string{""}}},
	} {
		for _, name := range []string{"A", "Object", "Nope", "", "C"} {
			for _, own := range []string{"", "q", "Q", "x x"} {
				for kernel := range len(c) + 1 {
					changes, e := plan.Make(c, kernel, name, names(own))
					if e != api.ErrArg || len(changes) != 0 {
						t.Fatalf("%s: Make(%q, %q) = %v, %d", what, name, own, changes, e)
					}
				}
			}
		}
	}
}

// P20.2: what a list that is well made may have all the same.
func TestWellMade(t *testing.T) {
	for what, c := range map[string][]api.ClassInfo{
		"several without a superclass":   {of("A", "", "x"), of("Object", "", "x"), of("B", "", "x")},
		"the same name side by side":     {of("A", "", "x"), of("B", "", "a"), of("C", "B", "q"), of("D", "B", "q"), of("E", "C", "r"), of("F", "D", "r")},
		"a name of another line's above": {of("A", "", "x"), of("B", "A", "q"), of("C", "", "q"), of("D", "C", "x")},
		"families in one another":        {of("B", "", "b"), of("A", "", "x"), of("C", "B", "q"), of("D", "", "q"), of("E", "D", "b"), of("F", "C", "r"), of("G", "E", "r")},
		"names that are none":            {of("A", "", "x"), of("é", "", "X self 1 é"), of(" ", "é", "Y super"), {Name: "9", Own: []string{"", "\x00"}}},
		"names unlike in their case":     {of("A", "", "x"), of("a", "A", "X"), of("AA", "a", "xx xX")},
		"more fields than may be":        {of("A", "", "x"), of("B", "", row("b", 40)), of("C", "B", row("c", 40))},
		"layouts that may not be":        {of("A", "", "x"), {Name: "B", Layout: -5}, {Name: "C", Layout: math.MaxInt}},
	} {
		changes, e := plan.Make(c, 0, "A", names("w"))
		if e != api.OK || len(changes) == 0 || changes[0].New[0] != "w" {
			t.Errorf("%s: %s, %d", what, text(changes), e)
		}
	}
}

// P20.2: of a class's name each byte counts.
func TestNoClass(t *testing.T) {
	for _, name := range []string{"", "a", "AA", "Object ", " A", "object", "x", "z", "A\x00", "\xff", strings.Repeat("A", 99)} {
		wantRefused(t, chapter(), 1, name, "w", api.ErrClass)
		wantRefused(t, chapter(), 4, name, "W", api.ErrClass)
	}
}

// P20.2: the names of own are gone through one by one, each for what may be wrong with it.
func TestOwnNameByName(t *testing.T) {
	c := []api.ClassInfo{of("Object", "", "o"), of("P", "Object", "p q"), of("A", "P", "x y"), of("B", "A", "z")}
	for _, l := range []struct {
		own  string
		want api.Errno
	}{
		{"X", api.ErrName}, {"x X", api.ErrName}, {"x x X", api.ErrDouble}, {"x X x", api.ErrName}, {"X X", api.ErrName},
		{"p", api.ErrInherited}, {"q", api.ErrInherited}, {"o", api.ErrInherited}, {"x y o", api.ErrInherited},
		{"p p", api.ErrInherited}, {"p x x", api.ErrInherited}, {"x x p", api.ErrDouble}, {"p X", api.ErrInherited}, {"X p", api.ErrName},
		{"z x x", api.ErrDouble}, {"z X", api.ErrName}, {"z o", api.ErrInherited}, {"z", api.ErrBelow}, {"x y z", api.ErrBelow}, {"z z", api.ErrDouble},
		{"a b c d a", api.ErrDouble}, {"a b c d d", api.ErrDouble}, {"a b a b", api.ErrDouble},
		{"nil", api.ErrName}, {"x true", api.ErrName}, {"false", api.ErrName}, {"super", api.ErrName}, {"a1 b_", api.ErrName}, {"1a", api.ErrName},
		{strings.Repeat("a", 33), api.ErrName}, {"é", api.ErrName},
		{row("f", 33), api.ErrFields}, {row("f", 200) + " X", api.ErrName}, {row("f", 200) + " f199", api.ErrDouble}, {row("f", 200) + " f0", api.ErrDouble},
		{row("f", 200) + " p", api.ErrInherited}, {row("f", 200) + " z", api.ErrBelow},
	} {
		wantRefused(t, c, 1, "A", l.own, l.want)
	}
	for _, own := range []string{"x", "y x", "a", strings.Repeat("a", 32), "selfs", "xx", "pp", "zz"} {
		if _, e := plan.Make(c, 1, "A", names(own)); e != api.OK {
			t.Errorf("%q: %d", own, e)
		}
	}
}

// P20.2: a name of the class at present is none of the superclass's: it may stay.
func TestPresentNamesMayStay(t *testing.T) {
	wantMade(t, chapter(), 1, "A", "y", "{2 [x y] [y] [1]} {3 [x y z] [y z] [1 2]}")
	wantMade(t, chapter(), 1, "B", "z w", "{3 [x y z] [x y z w] [0 1 2 -1]}")
	// A field of a class beside it, or of one above that is gone from there, is free.
	wantMade(t, chapter(), 1, "D", "y z", "{4 [x] [y z] [-1 -1]}")
	c := chapter()
	c[1].Own = names("y")
	wantMade(t, c, 1, "B", "x", "{3 [y z] [y x] [0 -1]}")
}

// P20.2: names of descendants, near and far, wherever they stand in the list.
func TestBelow(t *testing.T) {
	c := []api.ClassInfo{
		of("Object", "", ""), of("A", "Object", "a"), of("S", "Object", "s"), of("B", "A", "b"), of("T", "S", "t"),
		of("C", "B", ""), of("E", "C", "e1 e2"), of("U", "T", "u"), of("F", "A", "f"), of("G", "F", "g"),
	}
	for _, own := range []string{"b", "e1", "e2", "f", "g", "a b", "g a", "w e2", "b g", "w v g"} {
		wantRefused(t, c, 1, "A", own, api.ErrBelow)
	}
	for _, own := range []string{"e1", "e2", "b e2"} {
		wantRefused(t, c, 1, "B", own, api.ErrBelow)
	}
	for _, l := range [][2]string{{"A", "s t u"}, {"B", "f g s t u"}, {"C", "f g s"}, {"E", "f g s"}, {"S", "a b e1 e2 f g"}, {"F", "b e1 e2"}, {"G", "b e1"}} {
		if _, e := plan.Make(c, 1, l[0], names(l[1])); e != api.OK {
			t.Errorf("%s with %s: %d", l[0], l[1], e)
		}
	}
	// The fields of a class itself are those of no descendant.
	wantMade(t, c, 1, "G", "", "{10 [a f g] [a f] [0 1]}")
	wantRefused(t, c, 1, "B", "a", api.ErrInherited)
}

// P20.2: 32 fields are taken, 33 are not, wherever in the family they would be.
func TestFields(t *testing.T) {
	for inherited := range 34 {
		for below := range 4 {
			c := []api.ClassInfo{
				of("Object", "", ""), of("P", "Object", row("p", inherited)), of("Q", "P", ""), of("A", "Q", "x"),
				of("B", "A", ""), of("S", "Object", row("s", 40)), of("C", "B", row("c", below)), of("T", "S", row("t", 40)), of("D", "A", ""),
			}
			for count := range 36 {
				changes, e := plan.Make(c, 1, "A", many("f", count))
				want := api.OK
				if inherited+below+count > 32 {
					want = api.ErrFields
				}
				if e != want || (e == api.OK) != (len(changes) == 4) {
					t.Fatalf("%d inherited, %d below, %d names: %v, %d", inherited, below, count, changes, e)
				}
			}
		}
	}
}

// P20.2: a list that would have too many fields is refused, though it is the present one, or shorter.
func TestFieldsAheadOfNoChange(t *testing.T) {
	c := []api.ClassInfo{of("A", "", row("a", 33)), of("B", "A", ""), of("C", "", row("c", 32)), of("D", "C", "d")}
	wantListRefused(t, c, 0, "A", many("a", 33), api.ErrFields)
	wantListRefused(t, c, 0, "B", nil, api.ErrFields)
	wantListRefused(t, c, 0, "B", many("b", 1), api.ErrFields)
	wantListRefused(t, c, 0, "C", many("c", 32), api.ErrFields)
	wantListRefused(t, c, 0, "D", names("d"), api.ErrFields)
	wantListRefused(t, aged(c, 0, api.MaxCount), 0, "A", many("a", 33), api.ErrFields)
	wantMade(t, c, 0, "D", "", "{4 ["+row("c", 32)+" d] ["+row("c", 32)+"] ["+upTo(32)+"]}")
	changes, e := plan.Make(c, 0, "A", many("a", 32))
	if e != api.OK || len(changes) != 2 || len(changes[1].Old) != 33 || len(changes[1].New) != 32 {
		t.Errorf("%v, %d", changes, e)
	}
}

// upTo is the numbers from 0 on, in one text.
func upTo(n int) string { return strings.TrimSpace(strings.ReplaceAll(" "+row("#", n), " #", " ")) }

// P20.2: a name below is told ahead of fields too many, though these are nearer.
func TestBelowAheadOfFields(t *testing.T) {
	c := []api.ClassInfo{of("A", "", "a"), of("B", "A", row("b", 31)), of("C", "A", "c"), of("D", "C", "d"), of("E", "D", "e")}
	for _, own := range []string{"x y c", "x y d", "x y e", "x y b30"} {
		wantRefused(t, c, 0, "A", own, api.ErrBelow)
	}
	wantRefused(t, c, 0, "A", "x y", api.ErrFields)
	wantRefused(t, c, 0, "A", row("f", 50), api.ErrFields)
	wantRefused(t, c, 0, "A", row("f", 50)+" e", api.ErrBelow)
	wantRefused(t, c, 0, "C", row("f", 50)+" e", api.ErrBelow)
	wantRefused(t, c, 0, "E", row("f", 50)+" b0", api.ErrFields)
}

// P20.2: the present list is the same names in the same order, and nothing is wrong with it then.
func TestNoChange(t *testing.T) {
	for _, layout := range []int{0, 7, -1, api.MaxCount - 1, api.MaxCount, math.MaxInt} {
		c := chapter()
		for i := range c {
			c[i].Layout = layout
		}
		wantMade(t, c, 1, "A", "x y", "")
		wantMade(t, c, 1, "B", "z", "")
		wantMade(t, c, 1, "D", "x", "")
		wantMade(t, c, 0, "Object", "", "")
		wantList(t, c, 0, "Object", []string{}, "")
		wantRefused(t, c, 1, "Object", "", api.ErrKernel)
		for _, own := range []string{"y x", "x", "y", "", "x y w", "w x y"} {
			changes, e := plan.Make(c, 1, "A", names(own))
			if layout >= api.MaxCount && (e != api.ErrCount || len(changes) != 0) || layout < api.MaxCount && (e != api.OK || len(changes) != 2) {
				t.Errorf("layout %d, %q: %v, %d", layout, own, changes, e)
			}
		}
	}
}

// P20.2: the layout numbers of the class and of its descendants count, and no others.
func TestLayouts(t *testing.T) {
	c := []api.ClassInfo{of("Object", "", ""), of("A", "Object", "a"), of("S", "Object", ""), of("B", "A", "b"), of("C", "B", ""), of("D", "A", "")}
	family := map[string][]int{"A": {1, 3, 4, 5}, "S": {2}, "B": {3, 4}, "C": {4}, "D": {5}}
	for name, places := range family {
		for place := range c {
			for _, layout := range []int{math.MinInt, -1, 0, 1, api.MaxCount - 1, api.MaxCount, api.MaxCount + 1, math.MaxInt} {
				_, e := plan.Make(aged(c, place, layout), 1, name, names("w"))
				want := api.OK
				if layout >= api.MaxCount && slices.Contains(places, place) {
					want = api.ErrCount
				}
				if e != want {
					t.Errorf("%s, the layout %d at %d: %d, want %d", name, layout, place, e, want)
				}
			}
		}
	}
}

// P20.2: where two errors apply, the one that is named first is told.
func TestOrderOfErrors(t *testing.T) {
	ill := []api.ClassInfo{of("Object", "", ""), of("A", "Object", "x x")}
	full := []api.ClassInfo{of("Object", "", "o"), of("A", "Object", "x y"), of("B", "A", row("b", 29))}
	old := aged(full, 2, api.MaxCount)
	for _, l := range []struct {
		classes   []api.ClassInfo
		kernel    int
		name, own string
		want      api.Errno
	}{
		{ill, 1, "Nope", "w", api.ErrArg}, {ill, 2, "A", "w", api.ErrArg}, {ill, 1, "A", "W", api.ErrArg}, {full, 4, "Nope", "W", api.ErrArg},
		{full, 3, "Nope", "W", api.ErrClass}, {old, 3, "Nope", "x x", api.ErrClass},
		{full, 2, "A", "W", api.ErrKernel}, {full, 2, "A", "x x", api.ErrKernel}, {full, 2, "A", "o", api.ErrKernel}, {full, 2, "A", "b0", api.ErrKernel},
		{full, 2, "A", row("f", 40), api.ErrKernel}, {full, 2, "A", "x y", api.ErrKernel}, {old, 2, "A", "w", api.ErrKernel},
		{full, 1, "A", "W b0", api.ErrName}, {full, 1, "A", "b0 b0", api.ErrDouble}, {full, 1, "A", "o b0", api.ErrInherited},
		{full, 1, "A", "b0 u v w", api.ErrBelow}, {old, 1, "A", "b0 u v w", api.ErrBelow}, {old, 1, "A", "b0", api.ErrBelow},
		{old, 1, "A", "u v w", api.ErrFields}, {full, 1, "A", "u v w", api.ErrFields}, {old, 1, "A", "u v", api.ErrCount}, {old, 1, "A", "x", api.ErrCount},
		{old, 1, "A", "W", api.ErrName}, {old, 1, "A", "x x", api.ErrDouble}, {old, 1, "A", "o", api.ErrInherited},
	} {
		wantRefused(t, l.classes, l.kernel, l.name, l.own, l.want)
	}
}
