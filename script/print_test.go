package script_test

import (
	"math"
	"slices"
	"strings"
	"testing"

	"kiln/api"
	"kiln/script"
)

// full is an act of a kind with all of its fields, and no other.
func full(kind int) api.Act {
	a := api.Act{Kind: kind}
	for _, f := range strings.Fields(modelLines[kind])[1:] {
		fill(&a, f)
	}
	return a
}

var fieldNames = []string{"name", "other", "names", "text", "number", "fuel"}

func fill(a *api.Act, field string) {
	switch field {
	case "name":
		a.Name = "N"
	case "other":
		a.Other = "o"
	case "names":
		a.Names = []string{"n", ""}
	case "text":
		a.Text = "^1"
	case "number":
		a.Number = 7
	case "fuel":
		a.Fuel = -8
	}
}

// P24.1: the line of each kind of act, with its fields and with none.
func TestEachLine(t *testing.T) {
	lines := []string{
		"", "class =N =o =n =", "method =N =^1", "remove =N =o", "global =N", "spawn =^1", "run 7 -8", "reshape =N =n =", "collect", "inspect", "mark 7", "save", "load =^1",
	}
	bare := []string{
		"", "class = =", "method = =", "remove = =", "global =", "spawn =", "run 0 0", "reshape =", "collect", "inspect", "mark 0", "save", "load =",
	}
	for kind := 1; kind <= 12; kind++ {
		line(t, full(kind), lines[kind], api.OK)
		line(t, api.Act{Kind: kind}, bare[kind], api.OK)
		line(t, api.Act{Kind: kind, Names: make([]string, 0, 4)}, bare[kind], api.OK)
	}
}

// P24.1: the kinds that there are not, whatever else stands in the act.
func TestNoKind(t *testing.T) {
	for _, kind := range []int{0, -1, 13, 14, 12 + 1<<32, 1 << 32, math.MinInt, math.MaxInt} {
		line(t, api.Act{Kind: kind}, "", api.ErrStep)
		a := api.Act{Kind: kind, Text: strings.Repeat("x", 262145)}
		for _, f := range fieldNames {
			line(t, a, "", api.ErrStep)
			fill(&a, f)
		}
		line(t, a, "", api.ErrStep)
	}
}

// P24.1: a field that the line does not name, each of them of each kind, alone and beside the named ones.
func TestUnnamed(t *testing.T) {
	for kind, form := range modelLines {
		for _, f := range fieldNames {
			code := api.ErrPrint
			if slices.Contains(strings.Fields(form)[1:], f) {
				code = api.OK
			}
			alone, beside := api.Act{Kind: kind}, full(kind)
			fill(&alone, f)
			fill(&beside, f)
			if e := actPrints(t, alone); e != code {
				t.Errorf("kind %d with %s: %d, want %d", kind, f, e, code)
			}
			if e := actPrints(t, beside); e != code {
				t.Errorf("kind %d and %s: %d, want %d", kind, f, e, code)
			}
		}
	}
	line(t, api.Act{Kind: api.ActSave, Names: []string{""}}, "", api.ErrPrint)
	line(t, api.Act{Kind: api.ActRun, Names: []string{""}}, "", api.ErrPrint)
}

// P24.1: the numbers.
func TestNumbers(t *testing.T) {
	line(t, api.Act{Kind: api.ActRun, Number: math.MinInt, Fuel: math.MaxInt}, "run -9223372036854775808 9223372036854775807", api.OK)
	line(t, api.Act{Kind: api.ActRun, Number: -10, Fuel: 1 << 40}, "run -10 1099511627776", api.OK)
	line(t, api.Act{Kind: api.ActMark}, "mark 0", api.OK)
	line(t, api.Act{Kind: api.ActMark, Number: math.MaxInt}, "mark 9223372036854775807", api.OK)
}

// P24.1: the longest line, and one byte more, by each field that can make it so.
func TestLongest(t *testing.T) {
	for kind, form := range modelLines {
		for _, f := range strings.Fields(form)[1:] {
			if f == "number" || f == "fuel" {
				continue
			}
			a := full(kind)
			field := map[string]*string{"name": &a.Name, "other": &a.Other, "text": &a.Text}[f]
			if f == "names" {
				field = &a.Names[1]
			}
			*field = ""
			now, _ := script.PrintAct(a)
			left := 262144 - len(now)
			*field = strings.Repeat("x", left)
			if e := actPrints(t, a); e != api.OK {
				t.Errorf("kind %d, the longest %s: %d", kind, f, e)
			}
			*field += "x"
			if e := actPrints(t, a); e != api.ErrLine {
				t.Errorf("kind %d, too long a %s: %d", kind, f, e)
			}
			// A byte that is written as three.
			*field = strings.Repeat("x", left-3) + "\n"
			if e := actPrints(t, a); e != api.OK {
				t.Errorf("kind %d, the longest %s with a hidden byte: %d", kind, f, e)
			}
			*field += "x"
			if e := actPrints(t, a); e != api.ErrLine {
				t.Errorf("kind %d, too long a %s with a hidden byte: %d", kind, f, e)
			}
		}
	}
}

// P24.1: ErrPrint ahead of ErrLine, and no shorter field behind a long one makes the line good.
func TestLongAndMore(t *testing.T) {
	long := strings.Repeat("y", 262145)
	line(t, api.Act{Kind: api.ActSpawn, Text: long, Fuel: 1}, "", api.ErrPrint)
	line(t, api.Act{Kind: api.ActSave, Text: long}, "", api.ErrPrint)
	line(t, api.Act{Kind: api.ActMethod, Name: long, Text: "x"}, "", api.ErrLine)
	line(t, api.Act{Kind: api.ActMethod, Name: long}, "", api.ErrLine)
	line(t, api.Act{Kind: api.ActMethod, Name: long, Other: "x"}, "", api.ErrPrint)
	line(t, api.Act{Kind: api.ActClass, Name: long, Other: "O", Names: []string{"x"}}, "", api.ErrLine)
	line(t, api.Act{Kind: api.ActClass, Name: "P", Other: "O", Names: []string{long, "x", ""}}, "", api.ErrLine)
	line(t, api.Act{Kind: api.ActReshape, Names: []string{long}, Number: 1}, "", api.ErrPrint)
	line(t, api.Act{Kind: api.ActSpawn, Text: strings.Repeat("\x00", 262144/3)}, "", api.ErrLine)
}

// P24.1: many names.
func TestManyNames(t *testing.T) {
	for _, c := range []struct {
		names int
		code  api.Errno
	}{{(262144 - 9) / 2, api.OK}, {(262144-9)/2 + 1, api.ErrLine}, {1 << 22, api.ErrLine}} {
		a := api.Act{Kind: api.ActReshape, Names: make([]string, c.names)}
		want := ""
		if c.code == api.OK {
			want = "reshape =" + strings.Repeat(" =", c.names)
		}
		line(t, a, want, c.code)
	}
}

// P24.2: the room's line alone, whatever numbers it has.
func TestRoom(t *testing.T) {
	for _, c := range []struct {
		words, oops int
		want        string
	}{{0, 0, "room 0 0\n"}, {-1, 1 << 20, "room -1 1048576\n"}, {math.MinInt, math.MaxInt, "room -9223372036854775808 9223372036854775807\n"}} {
		got, e := script.Print(api.Play{Words: c.words, Oops: c.oops})
		if got != c.want || e != api.OK {
			t.Errorf("Print = %q, %d, want %q", got, e, c.want)
		}
		gives(t, got, api.Play{Words: c.words, Oops: c.oops})
	}
}

// P24.2, P24.4: a play with each kind of act, and back.
func TestPlay(t *testing.T) {
	p := api.Play{Words: 1, Oops: 2}
	want := "room 1 2\n"
	for kind := 1; kind <= 12; kind++ {
		p.Acts = append(p.Acts, full(kind), api.Act{Kind: kind})
		for _, a := range p.Acts[2*kind-2:] {
			l, _ := script.PrintAct(a)
			want += l + "\n"
		}
		if got, e := script.Print(p); got != want || e != api.OK {
			t.Errorf("Print = %q, %d, want %q", got, e, want)
		}
		gives(t, want, p)
	}
}

// P24.2: the first error of an act is the answer, at whichever place.
func TestFirstError(t *testing.T) {
	long := api.Act{Kind: api.ActLoad, Text: strings.Repeat("x", 262144)}
	bad := []struct {
		act  api.Act
		code api.Errno
	}{{api.Act{}, api.ErrStep}, {api.Act{Kind: api.ActCollect, Fuel: 1}, api.ErrPrint}, {long, api.ErrLine}}
	for _, x := range bad {
		for _, y := range bad {
			for at := range 4 {
				p := api.Play{Acts: []api.Act{{Kind: 8}, {Kind: 9}, {Kind: 11}}}
				p.Acts = slices.Insert(p.Acts, at, x.act)
				p.Acts = append(p.Acts, y.act)
				if got, e := script.Print(p); got != "" || e != x.code {
					t.Errorf("Print = %s, %d, want %d", brief(got), e, x.code)
				}
			}
		}
	}
}

// P24.2: how many lines there may be, and that an act's error is told ahead of there being too many.
func TestMostActs(t *testing.T) {
	acts := make([]api.Act, 30000)
	for i := range acts {
		acts[i].Kind = api.ActSave
	}
	for _, n := range []int{19998, 19999} {
		want := "room 5 6\n" + strings.Repeat("save\n", n)
		if got, e := script.Print(api.Play{Words: 5, Oops: 6, Acts: acts[:n]}); got != want || e != api.OK {
			t.Errorf("Print of %d acts = %s, %d", n, brief(got), e)
		}
		gives(t, want, api.Play{Words: 5, Oops: 6, Acts: acts[:n]})
	}
	for _, n := range []int{20000, 20001, 30000} {
		for _, at := range []int{-1, 0, 19998, 19999, n - 1} {
			p := api.Play{Acts: slices.Clone(acts[:n])}
			code := api.ErrLines
			if at >= 0 {
				p.Acts[at].Fuel = 1
				code = api.ErrPrint
			}
			if got, e := script.Print(p); got != "" || e != code {
				t.Errorf("Print of %d acts, one wrong at %d = %s, %d, want %d", n, at, brief(got), e, code)
			}
		}
	}
}
