package kiln_test

import (
	"fmt"
	"strings"
	"testing"

	"kiln/api"
	"kiln/kiln"
)

func refusal(e api.Errno) api.Answer { return api.Answer{Refusal: api.Refusal{Code: e}} }

func refusalAt(e api.Errno, at int) api.Answer {
	return api.Answer{Refusal: api.Refusal{Code: e, At: at}}
}

func selected(s string) api.Answer { return api.Answer{Refusal: api.Refusal{Selector: s}} }

// doing is an act and what a machine that has begun answers.
type doing struct {
	a    api.Act
	want api.Answer
}

// P25.2: what each act answers: where it is taken, and where it is refused, by
// the first of its errors.
func doings() []doing {
	long := strings.Repeat("a", 33)
	return []doing{
		{defines("Q", "P", "z"), api.Answer{Number: 16}}, {defines("Q", "Object", ""), api.Answer{Number: 16}},
		{defines("q", "Nope", "x"), refusal(api.ErrName)}, {defines("", "Object", ""), refusal(api.ErrName)}, {defines("A"+long, "Object", ""), refusal(api.ErrName)},
		{defines("P", "Nope", ""), refusal(api.ErrThere)}, {defines("G", "Object", ""), refusal(api.ErrThere)}, {defines("Integer", "Object", ""), refusal(api.ErrThere)},
		{defines("Q", "Nope", "X"), refusal(api.ErrClass)}, {defines("Q", "", ""), refusal(api.ErrClass)}, {defines("Q", "G", ""), refusal(api.ErrClass)},
		{defines("Q", "Integer", "X"), refusal(api.ErrKernel)}, {defines("Q", "Message", ""), refusal(api.ErrKernel)},
		{defines("Q", "P", "X x"), refusal(api.ErrName)}, {defines("Q", "P", "a self"), refusal(api.ErrName)}, {defines("Q", "P", "a a"), refusal(api.ErrDouble)}, {defines("Q", "P", "a x"), refusal(api.ErrInherited)},

		{global("H"), api.Answer{Number: 1}}, {global("h"), refusal(api.ErrName)}, {global(""), refusal(api.ErrName)}, {global("G"), refusal(api.ErrThere)}, {global("P"), refusal(api.ErrThere)}, {global("Array"), refusal(api.ErrThere)},

		{lays("P", "foo"), selected("foo")}, {lays("P", "sum ^y"), selected("sum")}, {lays("P", "+ a ^a"), selected("+")}, {lays("Object", "at: a put: b ^b"), selected("at:put:")},
		{lays("Integer", "foo"), selected("foo")}, {lays("Block", "foo"), selected("foo")}, {lays("UndefinedObject", "foo"), selected("foo")},
		{lays("Nope", "("), refusal(api.ErrClass)}, {lays("G", "foo"), refusal(api.ErrClass)}, {lays("", "foo"), refusal(api.ErrClass)},
		{lays("Class", "("), refusal(api.ErrKernel)}, {lays("Method", "foo"), refusal(api.ErrKernel)}, {lays("Context", "foo"), refusal(api.ErrKernel)}, {lays("Process", "foo"), refusal(api.ErrKernel)}, {lays("Message", "foo"), refusal(api.ErrKernel)},
		{lays("P", "foo ^'"), refusalAt(api.ErrToken, 5)}, {lays("P", ""), refusal(api.ErrSyntax)}, {lays("P", "foo ^)"), refusalAt(api.ErrSyntax, 5)}, {lays("P", "foo ^q"), refusalAt(api.ErrUnknown, 5)},
		{lays("P", "foo: x"), refusalAt(api.ErrTwice, 5)}, {lays("P", "foo: a a := 3"), refusalAt(api.ErrStore, 7)}, {lays("P", "foo: self"), refusalAt(api.ErrReserved, 5)}, {lays("P", "foo ^"+strings.Repeat("(", 25)+"3"+strings.Repeat(")", 25)), refusalAt(api.ErrDeep, 29)},
		{lays("P", "foo"+strings.Repeat(" ", 4094)), refusalAt(api.ErrLong, 4096)}, {lays("P", "a"+long), refusal(api.ErrLong)}, {lays("Object", "foo ^x"), refusalAt(api.ErrUnknown, 5)},

		{removes("P", "sum"), api.Answer{}}, {removes("Nope", "nope"), refusal(api.ErrClass)}, {removes("P", "nope"), refusal(api.ErrSelector)}, {removes("P", ""), refusal(api.ErrSelector)}, {removes("Object", "sum"), refusal(api.ErrSelector)}, {removes("Class", "new"), refusal(api.ErrSelector)},

		{spawns("^3"), api.Answer{Number: 2}}, {spawns(""), api.Answer{Number: 2}}, {spawns("("), refusalAt(api.ErrSyntax, 1)}, {spawns("^x"), refusalAt(api.ErrUnknown, 1)}, {spawns("3 $"), refusalAt(api.ErrToken, 2)}, {spawns("| a | a := [:a | a]"), refusalAt(api.ErrTwice, 13)},

		{runs(1, 9), refusal(api.ErrProcess)}, {runs(0, -1), refusal(api.ErrProcess)}, {runs(-1, 0), refusal(api.ErrProcess)}, {runs(2, 0), refusal(api.ErrProcess)},

		{reshapes("P", "y z x"), api.Answer{}}, {reshapes("P", "x y"), api.Answer{}}, {reshapes("P", "y"), api.Answer{Refusal: api.Refusal{Code: api.ErrUnknown, Class: "P", Selector: "sum", At: 5}}},
		{reshapes("P", "x y a"), api.Answer{Refusal: api.Refusal{Code: api.ErrTwice, Class: "P", Selector: "x:y:", At: 3}}},
		{reshapes("Nope", "X"), refusal(api.ErrClass)}, {reshapes("Object", "X"), refusal(api.ErrKernel)}, {reshapes("P", "x X x"), refusal(api.ErrName)}, {reshapes("P", "x x"), refusal(api.ErrDouble)}, {reshapes("G", ""), refusal(api.ErrClass)},

		{api.Act{Kind: api.ActCollect}, api.Answer{}}, {api.Act{Kind: api.ActInspect}, api.Answer{Text: "G = @1\n@1 P x=3 y=4\n"}},
		{marks(0), api.Answer{}}, {marks(1), api.Answer{}}, {marks(1 << 30), api.Answer{}}, {marks(-1), refusal(api.ErrArg)}, {marks(1<<30 + 1), refusal(api.ErrArg)},
		{api.Act{Kind: api.ActLoad}, refusal(api.ErrImage)}, {api.Act{Kind: api.ActLoad, Text: "kiln image 1\n"}, refusal(api.ErrImage)},
		{api.Act{}, refusal(api.ErrStep)}, {api.Act{Kind: 13}, refusal(api.ErrStep)}, {api.Act{Kind: -1}, refusal(api.ErrStep)}, {api.Act{Kind: 1 << 40}, refusal(api.ErrStep)}, {api.Act{Kind: -1 << 63}, refusal(api.ErrStep)},
	}
}

func TestDo(t *testing.T) {
	for _, c := range doings() {
		wants(t, begun(t, 3000, 300), c.a, c.want)
	}
}

// filled is an act whose fields that make no difference are set.
func filled(a api.Act) api.Act {
	named := map[int]string{
		api.ActClass: "name other names", api.ActMethod: "name text", api.ActRemove: "name other", api.ActGlobal: "name", api.ActSpawn: "text", api.ActRun: "number fuel",
		api.ActReshape: "name names", api.ActMark: "number", api.ActLoad: "text",
	}[a.Kind]
	has := func(s string) bool { return strings.Contains(" "+named+" ", " "+s+" ") }
	if !has("name") {
		a.Name = "P"
	}
	if !has("other") {
		a.Other = "sum"
	}
	if !has("names") {
		a.Names = []string{"q", "X"}
	}
	if !has("text") {
		a.Text = "foo ^3"
	}
	if !has("number") {
		a.Number = 3
	}
	if !has("fuel") {
		a.Fuel = -7
	}
	return a
}

// P25.2: fields that are not named make no difference.
func TestFieldsThatAreNotNamed(t *testing.T) {
	for _, c := range doings() {
		m, twin := begun(t, 3000, 300), begun(t, 3000, 300)
		wants(t, m, filled(c.a), c.want)
		twin.Do(c.a)
		save(t, m)
		save(t, twin)
		if m.Saved() != twin.Saved() {
			t.Fatalf("P25.2: %+v leaves another image than %+v", filled(c.a), c.a)
		}
	}
}

// P25.2: what a run answers of a process that is ready, that has ended, that has failed.
func TestRuns(t *testing.T) {
	m := begun(t, 6000, 800)
	for i, c := range []struct {
		source string
		want   api.Answer
	}{
		{"^3", api.Answer{State: api.Ended, Text: "3"}},
		{"^'it''s'", api.Answer{State: api.Ended, Text: `'it\'s'`}},
		{"^#a", api.Answer{State: api.Ended, Text: "#'a'"}},
		{"", api.Answer{State: api.Ended, Text: "nil"}},
		{"^G", api.Answer{State: api.Ended, Text: "a P"}},
		{"^Array", api.Answer{State: api.Ended, Text: "Array"}},
		{"^Array new: 2", api.Answer{State: api.Ended, Used: 1, Text: "an Array"}},
		{"^G sum", api.Answer{State: api.Ended, Used: 2, Text: "7"}},
		{"[true] whileTrue: [G sum]", api.Answer{State: api.Ready, Used: 20}},
		{"G foo: 3", api.Answer{Refusal: api.Refusal{Code: api.ErrUnderstood, Selector: "foo:"}, State: api.Failed, Used: 1}},
		{"^7 // 0", api.Answer{Refusal: api.Refusal{Code: api.ErrZero}, State: api.Failed, Used: 1}},
		{"^3 + nil", api.Answer{Refusal: api.Refusal{Code: api.ErrPrim}, State: api.Failed, Used: 1}},
		{"^#(1 2) at: 3", api.Answer{Refusal: api.Refusal{Code: api.ErrIndex}, State: api.Failed, Used: 1}},
		{"nil ifTrue: [3]", api.Answer{Refusal: api.Refusal{Code: api.ErrBool}, State: api.Failed}},
		{"^Array new: 8193", api.Answer{Refusal: api.Refusal{Code: api.ErrPrim}, State: api.Failed, Used: 1}},
		{"^Array new: 6000", api.Answer{Refusal: api.Refusal{Code: api.ErrFull}, State: api.Failed, Used: 1}},
	} {
		takes(t, m, spawns(c.source))
		c.want.Number = i + 2
		wants(t, m, runs(i+2, 20), c.want)
		wantState(t, m, i+2, c.want.State)
	}
	takes(t, m, spawns("G := [^5]"))
	takes(t, m, runs(18, 9))
	takes(t, m, spawns("G value"))
	wants(t, m, runs(19, 9), api.Answer{Refusal: api.Refusal{Code: api.ErrHome}, Number: 19, State: api.Failed, Used: 1})
}

// wantState says whether a process is ready.
func wantState(t *testing.T, m *kiln.Machine, process, state int) {
	t.Helper()
	_, e := m.Next(process)
	if (e == api.OK) != (state == api.Ready) || state != api.Ready && e != api.ErrProcess {
		t.Fatalf("P25.3: Next(%d) = %d, and the state is %d", process, e, state)
	}
	if state != api.Ready {
		answers(t, m, runs(process, 3), api.ErrProcess)
	}
}

// P25.2: of a ready process the fuel is looked at, and nothing of it is done.
func TestFuelMayNotBe(t *testing.T) {
	m := begun(t, 3000, 300)
	takes(t, m, spawns("^G sum"))
	for _, fuel := range []int{-1, 1<<40 + 1, -1 << 63, 1<<63 - 1} {
		answers(t, m, runs(2, fuel), api.ErrArg)
	}
	wants(t, m, runs(2, 1<<40), api.Answer{Number: 2, State: api.Ended, Used: 2, Text: "7"})
}

// P25.2: numbers go up: of classes, globals, processes; also of those that a
// refused act would have had.
func TestNumbers(t *testing.T) {
	m := newMachine(t, 6000, 800)
	for n := range 20 {
		c := fmt.Sprintf("C%d", n)
		wants(t, m, defines(c, "Object", ""), api.Answer{Number: 15 + n})
		answers(t, m, defines(c, "Object", ""), api.ErrThere)
		wants(t, m, global("G"+c), api.Answer{Number: n})
		answers(t, m, global(c), api.ErrThere)
		wants(t, m, spawns("^3"), api.Answer{Number: n + 1})
		wants(t, m, spawns("^x"), refusalAt(api.ErrUnknown, 1))
	}
}

// P25.2: ActSave answers how many bytes the image has, and it is the last one.
func TestSave(t *testing.T) {
	m := begun(t, 3000, 300)
	for range 3 {
		save(t, m)
		was := m.Saved()
		takes(t, m, spawns("^3"))
		if m.Saved() != was {
			t.Fatal("P25.3: Saved is another image, and nothing was saved")
		}
		save(t, m)
		if m.Saved() == was {
			t.Fatal("P25.2: what was saved is not the last image")
		}
	}
}
