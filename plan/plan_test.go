package plan_test

import (
	"fmt"
	"math"
	"slices"
	"strings"
	"testing"

	"kiln/api"
	"kiln/plan"
)

// names is a list of names, written as words.
func names(s string) []string { return strings.Fields(s) }

// of is a class as data; its own names are written as words.
func of(name, super, own string) api.ClassInfo {
	return api.ClassInfo{Name: name, Super: super, Own: names(own)}
}

// chapter is the list of the chapter's examples; its kernel has one class.
func chapter() []api.ClassInfo {
	return []api.ClassInfo{of("Object", "", ""), of("A", "Object", "x y"), of("B", "A", "z"), of("D", "Object", "x")}
}

// aged is a list in which the class at a place has that layout number.
func aged(classes []api.ClassInfo, place, layout int) []api.ClassInfo {
	classes = slices.Clone(classes)
	classes[place].Layout = layout
	return classes
}

// many is that many names of fields, all unlike: the prefix and a number.
func many(prefix string, count int) []string {
	list := make([]string, count)
	for i := range list {
		list[i] = fmt.Sprint(prefix, i)
	}
	return list
}

// row is that many names in one text.
func row(prefix string, count int) string { return strings.Join(many(prefix, count), " ") }

// text writes changes as the chapter does.
func text(changes []api.Change) string {
	var all []string
	for _, c := range changes {
		all = append(all, fmt.Sprint(c))
	}
	return strings.Join(all, " ")
}

// wantMade asks for changes, as text; "" is none.
func wantMade(t *testing.T, classes []api.ClassInfo, kernel int, name, own, want string) {
	t.Helper()
	wantList(t, classes, kernel, name, names(own), want)
}

func wantList(t *testing.T, classes []api.ClassInfo, kernel int, name string, own []string, want string) {
	t.Helper()
	changes, e := plan.Make(classes, kernel, name, own)
	if e != api.OK || text(changes) != want {
		t.Errorf("Make(%q, %q) = %s, %d; want %s", name, own, text(changes), e, want)
	}
}

// wantRefused asks for an error, and for nothing beside it.
func wantRefused(t *testing.T, classes []api.ClassInfo, kernel int, name, own string, want api.Errno) {
	t.Helper()
	wantListRefused(t, classes, kernel, name, names(own), want)
}

func wantListRefused(t *testing.T, classes []api.ClassInfo, kernel int, name string, own []string, want api.Errno) {
	t.Helper()
	changes, e := plan.Make(classes, kernel, name, own)
	if e != want || len(changes) != 0 {
		t.Errorf("Make(%q, %.60q) = %s, %d; want %d", name, own, text(changes), e, want)
	}
}

// The chapter's examples, line by line.

func TestExampleChanges(t *testing.T) {
	c := chapter()
	wantMade(t, c, 1, "A", "y x w", "{2 [x y] [y x w] [1 0 -1]} {3 [x y z] [y x w z] [1 0 -1 2]}")
	wantMade(t, c, 1, "A", "x y", "")
	wantMade(t, c, 1, "A", "", "{2 [x y] [] []} {3 [x y z] [z] [2]}")
	wantMade(t, c, 1, "D", "z", "{4 [x] [z] [-1]}")
}

func TestExampleRefused(t *testing.T) {
	c := chapter()
	wantRefused(t, c, 1, "Nope", "x", api.ErrClass)
	wantRefused(t, c, 1, "Object", "x", api.ErrKernel)
	wantRefused(t, c, 1, "A", "x x", api.ErrDouble)
	wantRefused(t, c, 1, "A", "X", api.ErrName)
	wantRefused(t, c, 1, "A", "self", api.ErrName)
	wantListRefused(t, c, 1, "A", []string{""}, api.ErrName)
	wantRefused(t, c, 1, "A", "z", api.ErrBelow)
	wantRefused(t, c, 1, "B", "x", api.ErrInherited)
	wantRefused(t, c, 1, "A", "x X x", api.ErrName)
}

func TestExampleFields(t *testing.T) {
	changes, e := plan.Make(chapter(), 1, "A", many("f", 31))
	if e != api.OK || len(changes) != 2 || len(changes[0].New) != 31 || len(changes[1].New) != 32 {
		t.Errorf("31 names: %s, %d", text(changes), e)
	}
	wantListRefused(t, chapter(), 1, "A", many("f", 32), api.ErrFields)
}

func TestExampleLayouts(t *testing.T) {
	for _, place := range []int{1, 2} {
		c := aged(chapter(), place, api.MaxCount)
		wantRefused(t, c, 1, "A", "w", api.ErrCount)
		wantMade(t, c, 1, "D", "z", "{4 [x] [z] [-1]}")
	}
}

func TestExampleIllMade(t *testing.T) {
	wantRefused(t, chapter(), 5, "A", "w", api.ErrArg)
	for _, c := range [][]api.ClassInfo{
		{of("Object", "", ""), of("B", "A", "z"), of("A", "Object", "x y")},
		{of("Object", "", ""), of("A", "Object", "x y"), of("A", "Object", "z")},
		{of("Object", "", ""), of("A", "Object", "x y"), of("D", "A", "w w")},
		{of("Object", "", ""), of("A", "Object", "x y"), of("D", "A", "x")},
	} {
		wantRefused(t, c, 1, "A", "q", api.ErrArg)
	}
}

// P20.1: every byte, as the first one, behind it, and as the last.
func TestNameBytes(t *testing.T) {
	within := func(b int, least, most rune) bool { return b >= int(least) && b <= int(most) }
	for b := range 256 {
		s := string([]byte{byte(b)})
		capital, small := within(b, 'A', 'Z'), within(b, 'a', 'z')
		plain := capital || small || within(b, '0', '9')
		wantName(t, s, small, capital)
		wantName(t, s+"a0Z", small, capital)
		wantName(t, "a"+s, plain, false)
		wantName(t, "A"+s, false, plain)
		wantName(t, "zA9"+s+"q", plain, false)
		wantName(t, "ZA9"+s+"q", false, plain)
		wantName(t, strings.Repeat("a", 31)+s, plain, false)
		wantName(t, strings.Repeat("A", 31)+s, false, plain)
	}
}

// P20.1: 1 to 32 bytes.
func TestNameLengths(t *testing.T) {
	for n := range 70 {
		wantName(t, strings.Repeat("b", n), n >= 1 && n <= 32, false)
		wantName(t, strings.Repeat("B", n), false, n >= 1 && n <= 32)
	}
	wantName(t, strings.Repeat("a", 1<<20), false, false)
	// Bytes are counted, and no others than those of ASCII are letters or digits.
	for _, s := range []string{"é", "aé", "Aé", "a\xff", "aٳ", "aα", "a a", " a", "a ", "a:", "a_b", "a\x00", "9", "9a", "+"} {
		wantName(t, s, false, false)
	}
}

// P20.1: the reserved words are names of no field; of a class they are none either, but with a capital they are.
func TestNameReserved(t *testing.T) {
	for _, s := range []string{"self", "super", "nil", "true", "false"} {
		wantName(t, s, false, false)
		wantName(t, s+"1", true, false)
		wantName(t, s[:len(s)-1], true, false)
		wantName(t, "a"+s, true, false)
		wantName(t, strings.ToUpper(s[:1])+s[1:], false, true)
		wantName(t, s[:1]+strings.ToUpper(s[1:]), true, false)
	}
	wantName(t, "thisContext", true, false)
	wantName(t, "Object", false, true)
}

func wantName(t *testing.T, s string, field, class bool) {
	t.Helper()
	if plan.FieldName(s) != field {
		t.Errorf("FieldName(%.40q) = %v", s, !field)
	}
	if plan.ClassName(s) != class {
		t.Errorf("ClassName(%.40q) = %v", s, !class)
	}
}

// P20.2: what may be no number of the kernel's classes.
func TestKernelNumbers(t *testing.T) {
	c := chapter()
	for _, kernel := range []int{-1, -2, math.MinInt, 5, 6, math.MaxInt} {
		wantRefused(t, c, kernel, "A", "w", api.ErrArg)
		wantRefused(t, c, kernel, "Nope", "W W", api.ErrArg)
	}
	for kernel := range 5 {
		for place, name := range []string{"Object", "A", "B", "D"} {
			_, e := plan.Make(c, kernel, name, names("w"))
			if want := place < kernel; want != (e == api.ErrKernel) || !want && e != api.OK {
				t.Errorf("kernel %d, %s: %d", kernel, name, e)
			}
		}
	}
	wantRefused(t, nil, 1, "", "", api.ErrArg)
	wantRefused(t, nil, -1, "", "", api.ErrArg)
	wantRefused(t, nil, 0, "A", "", api.ErrClass)
	wantRefused(t, []api.ClassInfo{}, 0, "", "", api.ErrClass)
}
