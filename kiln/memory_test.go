package kiln_test

import (
	"math"
	"math/rand"
	"slices"
	"strings"
	"testing"

	"kiln/api"
	"kiln/kiln"
)

// spare is a list with room behind its end, which holds a word.
func spare(list ...string) []string {
	long := append(slices.Clone(list), "behind", "more")
	return long[:len(list)]
}

// R4, P25.5: the lists of an act are not changed, nor what lies behind them, and
// not kept: what becomes of them later is not seen.
func TestLists(t *testing.T) {
	for _, c := range []struct {
		kind  int
		name  string
		names []string
		want  string
	}{
		{api.ActClass, "Q", []string{"b", "a"}, "G = @1\n@1 Q x=nil y=nil b=nil a=nil\n"}, {api.ActReshape, "P", []string{"y", "q", "x"}, "G = @1\n@1 P y=nil q=nil x=nil\n"},
		{api.ActClass, "Q", []string{"b", "X"}, "G = @1\n@1 P x=3 y=4\n"}, {api.ActReshape, "P", []string{"y", "x", "x"}, "G = @1\n@1 P x=3 y=4\n"}, {api.ActReshape, "P", []string{"y"}, "G = @1\n@1 P x=3 y=4\n"},
	} {
		m := begun(t, 3000, 300)
		names := spare(c.names...)
		x := m.Do(api.Act{Kind: c.kind, Name: c.name, Other: "P", Names: names})
		if whole := names[:len(names)+2]; !slices.Equal(whole, append(slices.Clone(c.names), "behind", "more")) {
			t.Fatalf("R4: the list is %q", whole)
		}
		clear(names[:len(names)+2])
		if x.Code == api.OK {
			takes(t, m, spawns("G := "+c.name+" new"))
			takes(t, m, runs(2, 3))
		}
		told(t, m, c.want)
	}
}

// R1, P25.5: every call ends, and none panics, whatever it is given.
func TestWhatever(t *testing.T) {
	t.Parallel()
	r := rand.New(rand.NewSource(255))
	numbers := []int{0, 1, -1, 2, 13, 1 << 30, 1<<30 + 1, 1 << 40, 1<<40 + 1, math.MaxInt, math.MinInt, math.MinInt32}
	texts := []string{"", "P", "Object", "G", "x", "\x00", "\xff\xfe", strings.Repeat("(", 5000), "foo ^3", "^3", "'", strings.Repeat("A", 100000), "kiln image 1\n", "x := 3", "Class", "sum", "é", "[[[", "#(", "\n"}
	m := begun(t, 3000, 300)
	for range 20000 {
		a := api.Act{Kind: r.Intn(16) - 1, Name: texts[r.Intn(len(texts))], Other: texts[r.Intn(len(texts))], Text: texts[r.Intn(len(texts))], Number: numbers[r.Intn(len(numbers))], Fuel: numbers[r.Intn(len(numbers))]}
		for range r.Intn(4) {
			a.Names = append(a.Names, texts[r.Intn(len(texts))])
		}
		if r.Intn(10) == 0 {
			a.Names = slices.Repeat([]string{"x"}, 40000)
		}
		x := m.Do(a)
		if x.Code != api.OK && x.Code != api.ErrUnderstood && (x.Number != 0 && x.State == 0 || x.Text != "") {
			t.Fatalf("R2: %+v answers %+v", a, x)
		}
		m.Next(a.Number)
	}
	if !m.Layouts() {
		t.Fatal("P25.10: the layouts do not hold")
	}
}

// R5, P25.5: the same acts are answered the same, whatever else was done with
// other machines between.
func TestSameAgain(t *testing.T) {
	noise := begun(t, 2000, 200)
	stories(t, 500, 30, 60, func(seed int64, s *story) {
		w := newAuthor(seed + 7)
		s.again("R5", teller{ahead: func(m *kiln.Machine, _ int) *kiln.Machine {
			a := w.act()
			w.learn(a, noise.Do(a), noise.Saved())
			return m
		}})
	})
}

// P25.5: a run ends as soon as the fuel is spent, however long the process would go on.
func TestEnds(t *testing.T) {
	m := begun(t, 3000, 300)
	takes(t, m, spawns("[true] whileTrue: [G := P new]"))
	wants(t, m, runs(2, 300000), api.Answer{Number: 2, State: api.Ready, Used: 300000})
}
