package plan_test

import (
	"slices"
	"testing"

	"kiln/api"
	"kiln/class"
	"kiln/plan"
)

// wide is a list in which families lie in one another; its kernel has two classes.
func wide() []api.ClassInfo {
	return []api.ClassInfo{
		of("Object", "", ""), of("Integer", "Object", ""),
		of("P", "Object", "p q"), of("S", "Object", "x"), of("A", "P", "x y z"), of("T", "S", "p"),
		of("B", "A", "b"), of("C", "P", "x"), of("E", "B", ""), of("F", "A", "b c"), of("G", "E", "g h"), of("U", "T", "q"),
	}
}

// P20.3: the class and its descendants by rising numbers, each with all its fields.
func TestChanges(t *testing.T) {
	wantMade(t, wide(), 2, "A", "z w x",
		"{5 [p q x y z] [p q z w x] [0 1 4 -1 2]} {7 [p q x y z b] [p q z w x b] [0 1 4 -1 2 5]}"+
			" {9 [p q x y z b] [p q z w x b] [0 1 4 -1 2 5]} {10 [p q x y z b c] [p q z w x b c] [0 1 4 -1 2 5 6]}"+
			" {11 [p q x y z b g h] [p q z w x b g h] [0 1 4 -1 2 5 6 7]}")
	wantMade(t, wide(), 2, "P", "q",
		"{3 [p q] [q] [1]} {5 [p q x y z] [q x y z] [1 2 3 4]} {7 [p q x y z b] [q x y z b] [1 2 3 4 5]} {8 [p q x] [q x] [1 2]}"+
			" {9 [p q x y z b] [q x y z b] [1 2 3 4 5]} {10 [p q x y z b c] [q x y z b c] [1 2 3 4 5 6]}"+
			" {11 [p q x y z b g h] [q x y z b g h] [1 2 3 4 5 6 7]}")
	wantMade(t, wide(), 2, "S", "", "{4 [x] [] []} {6 [x p] [p] [1]} {12 [x p q] [p q] [1 2]}")
	wantMade(t, wide(), 2, "G", "i h g", "{11 [p q x y z b g h] [p q x y z b i h g] [0 1 2 3 4 5 -1 7 6]}")
	wantMade(t, wide(), 2, "U", "", "{12 [x p q] [x p] [0 1]}")
}

// P20.3: a class without names of its own gets some, and its descendants with it.
func TestChangesOfNothing(t *testing.T) {
	wantMade(t, wide(), 2, "E", "e",
		"{9 [p q x y z b] [p q x y z b e] [0 1 2 3 4 5 -1]} {11 [p q x y z b g h] [p q x y z b e g h] [0 1 2 3 4 5 -1 6 7]}")
	wantMade(t, []api.ClassInfo{of("A", "", ""), of("B", "A", ""), of("C", "B", "")}, 0, "A", "a",
		"{1 [] [a] [-1]} {2 [] [a] [-1]} {3 [] [a] [-1]}")
	wantMade(t, []api.ClassInfo{of("A", "", "a"), of("B", "A", ""), of("C", "B", "")}, 0, "B", "b",
		"{2 [a] [a b] [0 -1]} {3 [a] [a b] [0 -1]}")
	wantMade(t, []api.ClassInfo{of("A", "", "a")}, 0, "A", "", "{1 [a] [] []}")
}

// P20.3: classes without a superclass are reshaped like others; what stands beside them stays.
func TestChangesOfTheFirst(t *testing.T) {
	c := []api.ClassInfo{of("A", "", "a"), of("B", "", "b"), of("C", "A", "b"), of("D", "B", "a")}
	wantMade(t, c, 0, "A", "c a", "{1 [a] [c a] [-1 0]} {3 [a b] [c a b] [-1 0 1]}")
	wantMade(t, c, 0, "B", "c b", "{2 [b] [c b] [-1 0]} {4 [b a] [c b a] [-1 0 1]}")
	wantMade(t, c, 1, "B", "c", "{2 [b] [c] [-1]} {4 [b a] [c a] [-1 1]}")
}

// P20.3: fields of the list that are no names of fields are told as they are.
func TestChangesOfOddNames(t *testing.T) {
	c := []api.ClassInfo{{Name: "é", Own: []string{"", "X"}}, {Name: "9", Super: "é", Own: []string{"self", "\xff"}}, {Name: "A", Super: "9", Own: []string{"1"}}}
	changes, e := plan.Make(c, 0, "9", names("w"))
	if e != api.OK || len(changes) != 2 {
		t.Fatalf("%v, %d", changes, e)
	}
	for _, w := range []struct {
		got, want []string
	}{
		{changes[0].Old, []string{"", "X", "self", "\xff"}}, {changes[0].New, []string{"", "X", "w"}},
		{changes[1].Old, []string{"", "X", "self", "\xff", "1"}}, {changes[1].New, []string{"", "X", "w", "1"}},
	} {
		if !slices.Equal(w.got, w.want) {
			t.Errorf("%q, want %q", w.got, w.want)
		}
	}
	if !slices.Equal(changes[1].From, []int{0, 1, -1, 4}) {
		t.Errorf("from %v", changes[1].From)
	}
}

// P20.3: fields and descendants are those that a kernel's classes have (chapter 13).
func TestAsTheKernelHasThem(t *testing.T) {
	k, e := class.Boot(10000, 1000)
	if e != api.OK {
		t.Fatal(e)
	}
	for _, c := range wide()[2:] {
		if _, e := k.Define(c.Name, c.Super, c.Own); e != api.OK {
			t.Fatalf("Define(%q) = %d", c.Name, e)
		}
	}
	var list []api.ClassInfo
	for n := range k.Count() {
		oop, _ := k.Numbered(n + 1)
		info, _ := k.Info(oop)
		list = append(list, info)
	}
	for i, c := range list {
		changes, e := plan.Make(list, api.KernelClasses, c.Name, names("new1"))
		if i < api.KernelClasses {
			if e != api.ErrKernel {
				t.Errorf("%s: %d", c.Name, e)
			}
			continue
		}
		oop, _ := k.Numbered(i + 1)
		var numbers []int
		for _, change := range changes {
			numbers = append(numbers, change.Class)
			below, _ := k.Numbered(change.Class)
			if fields, _ := k.Fields(below); !slices.Equal(change.Old, fields) {
				t.Errorf("%s: %v, want %v", c.Name, change, fields)
			}
		}
		if e != api.OK || !slices.Equal(numbers, k.Under(oop)) {
			t.Errorf("%s: %v, %d, want %v", c.Name, numbers, e, k.Under(oop))
		}
	}
}

// behind is the list that a reshape leaves.
func behind(classes []api.ClassInfo, name string, own []string, changes []api.Change) []api.ClassInfo {
	classes = slices.Clone(classes)
	for i := range classes {
		if classes[i].Name == name {
			classes[i].Own = own
		}
	}
	for _, c := range changes {
		classes[c.Class-1].Layout++
	}
	return classes
}

// P20.4: of all lists of up to three names for a class, what follows from a reshape.
func TestWhatFollows(t *testing.T) {
	pool := names("x y w z b c s t")
	for _, name := range []string{"A", "P", "B", "E", "S"} {
		for i := range pool {
			for j := range pool {
				for _, own := range [][]string{nil, {pool[i]}, {pool[i], pool[j]}, {pool[j], "v", pool[i]}} {
					wantFollows(t, wide(), 2, name, own)
				}
			}
		}
	}
}

// wantFollows makes a reshape, if it is not refused, and asks for all that P20.4 says of it.
func wantFollows(t *testing.T, classes []api.ClassInfo, kernel int, name string, own []string) {
	t.Helper()
	changes, e := plan.Make(classes, kernel, name, own)
	if e != api.OK {
		return
	}
	var first []string
	for _, c := range classes {
		if c.Name == name {
			first = c.Own
		}
	}
	for i, c := range changes {
		wantOnce(t, c)
		if i > 0 && !subset(classes[c.Class-1].Own, c.New) {
			t.Fatalf("%s with %q: own names of %d are not in %v", name, own, c.Class, c)
		}
	}
	after := behind(classes, name, own, changes)
	if again, e := plan.Make(after, kernel, name, own); e != api.OK || len(again) != 0 {
		t.Fatalf("%s with %q once more: %v, %d", name, own, again, e)
	}
	back, e := plan.Make(after, kernel, name, first)
	if e != api.OK || len(back) != len(changes) {
		t.Fatalf("%s with %q and back: %v, %d", name, own, back, e)
	}
	for i, c := range changes {
		if back[i].Class != c.Class || !slices.Equal(back[i].Old, c.New) || !slices.Equal(back[i].New, c.Old) {
			t.Fatalf("%s with %q: %v, and back %v", name, own, c, back[i])
		}
	}
}

// wantOnce asks whether each field is there once, and comes from its own place.
func wantOnce(t *testing.T, c api.Change) {
	t.Helper()
	if len(c.From) != len(c.New) {
		t.Fatalf("%v", c)
	}
	for i, s := range c.New {
		if slices.Index(c.New, s) != i {
			t.Fatalf("%q twice in %v", s, c)
		}
		if c.From[i] != slices.Index(c.Old, s) {
			t.Fatalf("%q comes from %d in %v", s, c.From[i], c)
		}
	}
}

func subset(some, all []string) bool {
	for _, s := range some {
		if !slices.Contains(all, s) {
			return false
		}
	}
	return true
}
