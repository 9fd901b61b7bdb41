package kiln_test

import (
	"strings"
	"testing"

	"kiln/api"
	"kiln/kiln"
)

// takes does an act that must be taken, and answers what came of it.
func takes(t *testing.T, m *kiln.Machine, a api.Act) api.Answer {
	t.Helper()
	x := m.Do(a)
	if x.Code != api.OK {
		t.Fatalf("%s: %+v", line(a), x)
	}
	return x
}

// answers says that an act is refused by a code, and answers nothing beside it.
func answers(t *testing.T, m *kiln.Machine, a api.Act, e api.Errno) {
	t.Helper()
	wants(t, m, a, api.Answer{Refusal: api.Refusal{Code: e}})
}

func wants(t *testing.T, m *kiln.Machine, a api.Act, want api.Answer) {
	t.Helper()
	if x := m.Do(a); x != want {
		t.Fatalf("%s: %+v, want %+v", line(a), x, want)
	}
}

// told says what the globals lead to.
func told(t *testing.T, m *kiln.Machine, want string) {
	t.Helper()
	wants(t, m, api.Act{Kind: api.ActInspect}, api.Answer{Text: want})
}

func defines(name, super, own string) api.Act {
	return api.Act{Kind: api.ActClass, Name: name, Other: super, Names: strings.Fields(own)}
}

func reshapes(name, own string) api.Act {
	return api.Act{Kind: api.ActReshape, Name: name, Names: strings.Fields(own)}
}

func global(name string) api.Act { return api.Act{Kind: api.ActGlobal, Name: name} }

func lays(name, source string) api.Act {
	return api.Act{Kind: api.ActMethod, Name: name, Text: source}
}

func removes(name, selector string) api.Act {
	return api.Act{Kind: api.ActRemove, Name: name, Other: selector}
}

func spawns(source string) api.Act { return api.Act{Kind: api.ActSpawn, Text: source} }

func runs(process, fuel int) api.Act {
	return api.Act{Kind: api.ActRun, Number: process, Fuel: fuel}
}

func marks(n int) api.Act { return api.Act{Kind: api.ActMark, Number: n} }

// begun is a machine in which an instance of P, whose x is 3 and y 4, stands in G.
func begun(t *testing.T, words, oops int) *kiln.Machine {
	t.Helper()
	m := newMachine(t, words, oops)
	for _, a := range []api.Act{
		defines("P", "Object", "x y"), global("G"), lays("P", "x: a y: b x := a. y := b"), lays("P", "sum ^x + y"),
		spawns("G := P new. G x: 3 y: 4"), runs(1, 9),
	} {
		takes(t, m, a)
	}
	return m
}
