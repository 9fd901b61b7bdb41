package plan_test

import (
	"fmt"
	"slices"
	"strings"
	"testing"

	"kiln/api"
	"kiln/plan"
)

// P20.5: lists far greater than a kernel's end, too, and soon.

// line is that many classes each below the one ahead of it; own tells their names.
func line(count int, own func(i int) []string) []api.ClassInfo {
	classes := make([]api.ClassInfo, count)
	for i := range classes {
		classes[i] = api.ClassInfo{Name: fmt.Sprint("C", i), Own: own(i)}
		if i > 0 {
			classes[i].Super = classes[i-1].Name
		}
	}
	return classes
}

func nothing(int) []string { return nil }

func one(i int) []string { return []string{fmt.Sprint("f", i)} }

const great = 1 << 16

func TestLongLine(t *testing.T) {
	classes := line(great, nothing)
	changes, e := plan.Make(classes, 0, "C0", names("a b"))
	if e != api.OK || len(changes) != great {
		t.Fatalf("%d changes, %d", len(changes), e)
	}
	for i, c := range changes {
		if c.Class != i+1 || len(c.Old) != 0 || !slices.Equal(c.New, names("a b")) || !slices.Equal(c.From, []int{-1, -1}) {
			t.Fatalf("at %d: %v", i, c)
		}
	}
	last := fmt.Sprint("C", great-1)
	wantMade(t, classes, great-1, last, "a", fmt.Sprintf("{%d [] [a] [-1]}", great))
	classes[great-1].Own = names("z")
	wantRefused(t, classes, 0, "C0", "a z", api.ErrBelow)
	wantRefused(t, classes, 0, "C0", row("a", 32), api.ErrFields)
	wantRefused(t, aged(classes, great-1, api.MaxCount), 0, "C0", "a", api.ErrCount)
	classes[0].Own = names("z")
	wantRefused(t, classes, 0, "C0", "a", api.ErrArg)
}

func TestLongLineOfFields(t *testing.T) {
	classes := line(great, one)
	last := fmt.Sprint("C", great-1)
	wantRefused(t, classes, 0, "C0", "f0", api.ErrFields)
	wantRefused(t, classes, 0, last, "", api.ErrFields)
	wantRefused(t, classes, 0, last, "f0", api.ErrInherited)
	wantRefused(t, classes, 0, last, fmt.Sprint("f", great-2), api.ErrInherited)
	wantRefused(t, classes, 0, "C0", fmt.Sprint("f", great-1), api.ErrBelow)
	wantRefused(t, classes, 0, "C40", "f39", api.ErrInherited)
	classes[great-1].Own = names("f0")
	wantRefused(t, classes, 0, last, "w", api.ErrArg)
}

// Many classes side by side below one line have their names in common.
func TestManySideBySide(t *testing.T) {
	classes := line(20, one)
	for i := range great {
		classes = append(classes, of(fmt.Sprint("S", i), "C19", "s"+fmt.Sprint(i%7)+" q"))
	}
	changes, e := plan.Make(classes, 1, "C5", names("a f5 b"))
	if e != api.OK || len(changes) != great+15 {
		t.Fatalf("%d changes, %d", len(changes), e)
	}
	c := changes[len(changes)-1]
	if c.Class != len(classes) || len(c.Old) != 22 || len(c.New) != 24 || !slices.Equal(c.From[4:9], []int{4, -1, 5, -1, 6}) || c.From[23] != 21 {
		t.Errorf("%v", c)
	}
	wantRefused(t, classes, 1, "C5", "q", api.ErrBelow)
	classes[len(classes)-1].Own = names("f3")
	wantRefused(t, classes, 1, "C5", "a", api.ErrArg)
}

func TestManyNames(t *testing.T) {
	list := many("n", 1<<18)
	wantListRefused(t, chapter(), 1, "A", list, api.ErrFields)
	wantListRefused(t, chapter(), 1, "A", append(slices.Clone(list), "X"), api.ErrName)
	wantListRefused(t, chapter(), 1, "A", append(slices.Clone(list), list[len(list)-1]), api.ErrDouble)
	wantListRefused(t, chapter(), 1, "B", append(slices.Clone(list), "x"), api.ErrInherited)
	wantListRefused(t, chapter(), 1, "A", append(slices.Clone(list), "z"), api.ErrBelow)
	c := chapter()
	c[1].Own = list
	wantListRefused(t, c, 1, "A", list, api.ErrFields)
	wantListRefused(t, c, 1, "B", list[len(list)-1:], api.ErrInherited)
	changes, e := plan.Make(c, 1, "A", []string{"w", list[len(list)-1], list[0]})
	if e != api.OK || len(changes) != 2 || !slices.Equal(changes[1].From, []int{-1, len(list) - 1, 0, len(list)}) {
		t.Errorf("%d changes, %d", len(changes), e)
	}
	c[1].Own = append(slices.Clone(list), list[7])
	wantListRefused(t, c, 1, "A", list, api.ErrArg)
}

func TestLongNames(t *testing.T) {
	long := strings.Repeat("A", 1<<20)
	c := []api.ClassInfo{{Name: long, Own: []string{long}}, {Name: "B", Super: long, Own: []string{long + "x"}}}
	changes, e := plan.Make(c, 0, long, names("w"))
	if e != api.OK || len(changes) != 2 || !slices.Equal(changes[1].New, []string{"w", long + "x"}) || !slices.Equal(changes[1].From, []int{-1, 1}) {
		t.Errorf("%d changes, %d", len(changes), e)
	}
	wantListRefused(t, c, 0, long, []string{long}, api.ErrName)
	wantRefused(t, c, 0, long[1:], "w", api.ErrClass)
	c[1].Own = []string{long}
	wantListRefused(t, c, 0, "B", nil, api.ErrArg)
}
