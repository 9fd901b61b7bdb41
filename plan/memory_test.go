package plan_test

import (
	"fmt"
	"math/rand"
	"reflect"
	"slices"
	"sync"
	"testing"

	"kiln/api"
	"kiln/plan"
)

// roomy is a list with spare room behind it, and something in that.
func roomy(list []string) []string {
	list = append(slices.Clone(list), "spare1", "spare2", "spare3", "spare4")
	return list[:len(list)-4]
}

func roomyClasses(classes []api.ClassInfo) []api.ClassInfo {
	list := append(slices.Clone(classes), of("Spare1", "A", "s"), of("Spare2", "", "t"))
	for i := range list {
		list[i].Own = roomy(list[i].Own)
	}
	return list[:len(classes)]
}

// spread is a list of classes with all spare room as part of it.
func spread(classes []api.ClassInfo) []api.ClassInfo {
	list := slices.Clone(classes[:cap(classes)])
	for i := range list {
		list[i].Own = slices.Clone(list[i].Own[:cap(list[i].Own)])
	}
	return list
}

// P20.5: what is handed in stays, the spare room behind its lists too, and nothing in an answer is of it.
func TestHandedInStays(t *testing.T) {
	dice := rand.New(rand.NewSource(206))
	for range 3000 {
		classes := roomyClasses(grown(dice))
		if dice.Intn(3) == 0 {
			classes = roomyClasses(spoilt(dice, classes))
		}
		place := dice.Intn(len(classes))
		own := roomy(asked(dice, classes, place))
		was, ownWas := spread(classes), slices.Clone(own[:cap(own)])
		changes, _ := plan.Make(classes, 0, classes[place].Name, own)
		scribble(changes)
		if !reflect.DeepEqual(spread(classes), was) || !slices.Equal(own[:cap(own)], ownWas) {
			t.Fatalf("%v with %q became %v with %q", was, ownWas, spread(classes), own[:cap(own)])
		}
	}
}

// scribble writes over all of an answer's memory.
func scribble(changes []api.Change) {
	for _, c := range changes {
		scribbleNames(c.Old)
		scribbleNames(c.New)
		scribbleNumbers(c.From)
	}
	changes = changes[:cap(changes)]
	for i := range changes {
		changes[i] = api.Change{Class: -7}
	}
}

func scribbleNames(list []string) {
	list = list[:cap(list)]
	for i := range list {
		list[i] = "scribble"
	}
}

func scribbleNumbers(list []int) {
	list = list[:cap(list)]
	for i := range list {
		list[i] = -77
	}
}

// P20.5: each list of an answer is its own: what is written into one, or behind it, is in no other.
func TestListsAreTheirOwn(t *testing.T) {
	ask := func() []api.Change {
		changes, e := plan.Make(wide(), 2, "P", names("q r"))
		if e != api.OK || len(changes) != 7 {
			t.Fatalf("%v, %d", changes, e)
		}
		return changes
	}
	lists := 3 * len(ask())
	for written := range lists {
		changes, want := ask(), ask()
		for i := range lists {
			c := &changes[i/3]
			if i == written {
				writeList(c, i%3)
			}
		}
		for i := range lists {
			got, asked := listOf(changes[i/3], i%3), listOf(want[i/3], i%3)
			if (got == asked) != (i != written) {
				t.Fatalf("list %d was written, list %d is %s, was %s", written, i, got, asked)
			}
		}
	}
}

func writeList(c *api.Change, which int) {
	switch which {
	case 0:
		scribbleNames(c.Old)
	case 1:
		scribbleNames(c.New)
	case 2:
		scribbleNumbers(c.From)
	}
}

func listOf(c api.Change, which int) string {
	return fmt.Sprint([]any{c.Old, c.New, c.From}[which])
}

// P20.5: a second answer is new memory, though the first one was written over.
func TestAnswersShareNothing(t *testing.T) {
	classes, own := wide(), names("x w")
	first, _ := plan.Make(classes, 2, "A", own)
	want := text(first)
	second, _ := plan.Make(classes, 2, "A", own)
	scribble(first)
	if text(second) != want {
		t.Errorf("%s, want %s", text(second), want)
	}
	wantList(t, classes, 2, "A", own, want)
}

// P20.5: what is behind a list's end is not seen; lists nil and empty mean the same.
func TestBehindTheEndIsNotSeen(t *testing.T) {
	full := append(chapter(), of("A", "", ""), of("", "", ""))
	wantMade(t, full[:4], 1, "A", "y", "{2 [x y] [y] [1]} {3 [x y z] [y z] [1 2]}")
	own := names("y y X")
	wantList(t, chapter(), 1, "A", own[:1], "{2 [x y] [y] [1]} {3 [x y z] [y z] [1 2]}")
	wantRefused(t, full, 1, "A", "y", api.ErrArg)
	for _, none := range [][]string{nil, {}, names("x")[:0]} {
		c := []api.ClassInfo{{Name: "A", Own: none}, {Name: "B", Super: "A", Own: none}}
		for _, other := range [][]string{nil, {}, names("x")[:0]} {
			wantList(t, c, 0, "A", other, "")
		}
		wantMade(t, c, 0, "A", "a", "{1 [] [a] [-1]} {2 [] [a] [-1]}")
		wantList(t, chapter(), 1, "D", none, "{4 [x] [] []}")
	}
}

// P20.5: calls side by side over one list do not meet.
func TestSideBySide(t *testing.T) {
	classes, own := roomyClasses(wide()), roomy(names("x w"))
	changes, _ := plan.Make(classes, 2, "A", own)
	want := text(changes)
	var all sync.WaitGroup
	for range 8 {
		all.Go(func() {
			for range 200 {
				changes, e := plan.Make(classes, 2, "A", own)
				if e != api.OK || text(changes) != want {
					t.Errorf("%s, %d", text(changes), e)
					return
				}
				scribble(changes)
			}
		})
	}
	all.Wait()
}
