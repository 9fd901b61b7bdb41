package script_test

import (
	"testing"

	"kiln/api"
	"kiln/script"
)

// line looks at what PrintAct answers.
func line(t *testing.T, a api.Act, want string, code api.Errno) {
	t.Helper()
	if got, e := script.PrintAct(a); got != want || e != code {
		t.Errorf("PrintAct(%s) = %s, %d, want %s, %d", brief(a), brief(got), e, brief(want), code)
	}
}

func tells(t *testing.T, a api.Answer, want string) {
	t.Helper()
	if got := script.Tell(a); got != want {
		t.Errorf("Tell(%s) = %s, want %s", brief(a), brief(got), brief(want))
	}
}

// Example 1.
func TestExampleClass(t *testing.T) {
	a := api.Act{Kind: api.ActClass, Name: "P", Other: "Object", Names: []string{"x", "y"}}
	line(t, a, "class =P =Object =x =y", api.OK)
	a.Fuel = 1
	line(t, a, "", api.ErrPrint)
	a.Kind = 13
	line(t, a, "", api.ErrStep)
	line(t, api.Act{Kind: api.ActReshape, Name: "P"}, "reshape =P", api.OK)
}

// Example 2.
func TestExampleLines(t *testing.T) {
	line(t, api.Act{Kind: api.ActMethod, Name: "P", Text: "sum ^x + y"}, "method =P =sum%20^x%20+%20y", api.OK)
	line(t, api.Act{Kind: api.ActRun, Number: 1, Fuel: 50}, "run 1 50", api.OK)
	line(t, api.Act{Kind: api.ActMark, Number: -1}, "mark -1", api.OK)
	line(t, api.Act{Kind: api.ActLoad}, "load =", api.OK)
}

// Example 3.
func TestExamplePrint(t *testing.T) {
	got, e := script.Print(api.Play{Words: 1000, Oops: 100})
	if got != "room 1000 100\n" || e != api.OK {
		t.Errorf("Print = %q, %d", got, e)
	}
}

// Example 4.
func TestExampleParse(t *testing.T) {
	want := api.Play{Words: 1000, Oops: 100, Acts: []api.Act{{Kind: api.ActCollect}, {Kind: api.ActInspect}}}
	gives(t, "room 1000 100\n# more\n\ncollect\ninspect", want)
}

// Example 5.
func TestExampleRefused(t *testing.T) {
	refuses(t, "", 0, api.ErrText)
	refuses(t, "collect", 1, api.ErrText)
	refuses(t, "room 1", 1, api.ErrWords)
	refuses(t, "room 1 x", 1, api.ErrPlain)
	refuses(t, "room 1 2\nrun 1", 2, api.ErrWords)
	refuses(t, "room 1 2\nrun 1 =", 2, api.ErrPlain)
	refuses(t, "room 1 2\nclass =P", 2, api.ErrWords)
	refuses(t, "room 1 2\nroom 1 2", 2, api.ErrStep)
}

// Example 6.
func TestExampleByteWords(t *testing.T) {
	refuses(t, "room 1 2\nglobal G", 2, api.ErrPlain)
	refuses(t, "room 1 2\nglobal =%47", 2, api.ErrPlain)
}

// Examples 7 and 8.
func TestExampleTell(t *testing.T) {
	tells(t, api.Answer{Number: 15}, "answer 0 15 0 0 0 = =\n")
	tells(t, api.Answer{State: api.Ended, Used: 3, Text: "7"}, "answer 0 0 2 3 0 = =\n. 7\n")
	tells(t, api.Answer{Refusal: api.Refusal{Code: 74, Class: "P", Selector: "sum", At: 5}}, "answer 74 0 0 0 5 =P =sum\n")
}
