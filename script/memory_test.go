package script_test

import (
	"reflect"
	"slices"
	"strings"
	"testing"
	"unsafe"

	"kiln/api"
	"kiln/script"
)

// within tells whether a text lies in the memory of another.
func within(s, whole string) bool {
	if s == "" || whole == "" {
		return false
	}
	at, from := uintptr(unsafe.Pointer(unsafe.StringData(s))), uintptr(unsafe.Pointer(unsafe.StringData(whole)))
	return from <= at && at < from+uintptr(len(whole))
}

// roomy is a list with spare room in which something stands.
func roomy(list ...string) []string {
	out := append(slices.Clone(list), "spare", "room")
	return out[:len(list)]
}

// P24.7: lists that are handed in stay as they are, the spare room behind them, too.
func TestHandedIn(t *testing.T) {
	acts := make([]api.Act, 14)
	for kind := range acts {
		acts[kind] = api.Act{Kind: kind, Name: "P", Other: "O", Names: roomy("x", "\n"), Text: "t", Number: 3, Fuel: 4}
	}
	bare := make([]api.Act, 0, 20)
	for kind := 1; kind <= 12; kind++ {
		a := full(kind)
		a.Names = roomy(a.Names...)
		bare = append(bare, a)
	}
	for _, list := range [][]api.Act{acts, bare, bare[:5], {{Kind: 7, Names: roomy(strings.Repeat("x", 300000), "y")}}} {
		before := deep(list)
		for _, a := range list {
			script.PrintAct(a)
		}
		script.Print(api.Play{Words: 1, Oops: 2, Acts: list})
		if !reflect.DeepEqual(deep(list), before) {
			t.Errorf("acts were changed: %s, want %s", brief(deep(list)), brief(before))
		}
	}
}

// deep is a copy of acts with all that stands in their lists and behind them.
func deep(acts []api.Act) []api.Act {
	out := slices.Clone(acts[:cap(acts)])
	for i := range out {
		out[i].Names = slices.Clone(out[i].Names[:cap(out[i].Names)])
	}
	return out
}

// P24.7: what is answered is new memory.
func TestAnswered(t *testing.T) {
	text := strings.Clone("room 1 2\nclass =Point =Object =x1 =y\nreshape =Point =name\nmethod =Point =foo%20^1\nspawn =abc\nload =x\nremove =P =at:put:\nglobal =Gx")
	p, err := script.Parse(text)
	if err != nil {
		t.Fatal(err)
	}
	for _, a := range p.Acts {
		for _, s := range append([]string{a.Name, a.Other, a.Text}, a.Names...) {
			if within(s, text) {
				t.Errorf("%q lies in the text that was handed in", s)
			}
		}
	}
	a := api.Act{Kind: api.ActGlobal, Name: "G"}
	s, _ := script.PrintAct(a)
	if u, _ := script.PrintAct(a); s != u || within(s, a.Name) {
		t.Errorf("PrintAct = %q, and then %q", s, u)
	}
	answer := api.Answer{Text: strings.Clone("answer")}
	if within(script.Tell(answer), answer.Text) {
		t.Errorf("Tell answers the memory of what it tells")
	}
}

// P24.7: no two lists of an answer, and no two answers, share memory, spare room too.
func TestListsApart(t *testing.T) {
	const text = "room 1 2\nclass =P =O =a =b =c\nreshape =P =d =e =f\nclass =Q =O\nreshape =R =g"
	p, _ := script.Parse(text)
	q, _ := script.Parse(text)
	want := names(q)
	for i := range p.Acts {
		spare := p.Acts[i].Names[:cap(p.Acts[i].Names)]
		for j := range spare {
			spare[j] = "other"
		}
		if left := names(p)[i+1:]; !reflect.DeepEqual(left, want[i+1:]) {
			t.Errorf("the acts behind %d were changed by it: %v", i, left)
		}
	}
	if !reflect.DeepEqual(names(q), want) {
		t.Errorf("a second answer was changed by the first: %v", names(q))
	}
}

// names is a copy of each act's.
func names(p api.Play) [][]string {
	var out [][]string
	for _, a := range p.Acts {
		out = append(out, slices.Clone(a.Names))
	}
	return out
}
