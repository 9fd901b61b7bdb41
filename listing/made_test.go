package listing_test

import (
	"slices"
	"strings"
	"testing"

	"kiln/api"
	"kiln/gen"
	"kiln/listing"
	"kiln/parse"
	"kiln/scope"
	"kiln/symbol"
)

// wantWritten is the listing of a tree's code, which reads as that code.
func wantWritten(t *testing.T, m api.Scoped) (api.Code, string) {
	t.Helper()
	table, e := symbol.New(api.MaxSymbols)
	if e != api.OK {
		t.Fatalf("no table: %d", e)
	}
	c, fault := gen.Make(m, table)
	if fault != (api.Fault{}) {
		t.Fatalf("no code: %+v", fault)
	}
	s, e := listing.Print(c)
	if e != api.OK {
		t.Fatalf("P12.3: %s: %d", short(c), e)
	}
	wantBoth(t, c, s)
	return c, s
}

func wantCompiled(t *testing.T, source string) (api.Code, string) {
	t.Helper()
	tree, fault := parse.Method(source)
	if fault != (api.Fault{}) {
		t.Fatalf("%s: %+v", source, fault)
	}
	m, fault := scope.Resolve(tree, api.Names{Fields: []string{"x"}, Classes: []string{"Object"}, Globals: []string{"G"}})
	if fault != (api.Fault{}) {
		t.Fatalf("%s: %+v", source, fault)
	}
	return wantWritten(t, m)
}

// P12.3: what is compiled can be written; with all instructions there are.
func TestMadeOfSources(t *testing.T) {
	_, s := wantCompiled(t, "foo: a ^a + 'it''s'")
	if want := lines("code 1 1 2", `text 'it\'s'`, "0 temp 0 0", "3 lit 0", "5 send 0 1", "8 return"); s != want {
		t.Fatalf("%q, want %q", s, want)
	}
	told := ""
	for _, source := range []string{
		"foo", "foo ^self", "foo ^(nil == true) = false", "foo ^-1073741824 - 1073741823", "foo ^#at:put:", "foo ^Object", "foo x := G. G := x. ^x",
		"foo: a | t | t := a. ^[:b | t := b. ^t]", "foo super foo; bar", "foo x a; b; c: 1", "foo ^x ifTrue: [1] ifFalse: [2]", "foo x and: [G or: [x]]",
		"foo [x] whileTrue: [G foo]", "foo [x] whileFalse: [G foo]", "foo 1 to: 9 do: [:i | G at: i put: [i]]",
		"foo ^#(1 -2 #a #at: 'b' nil true false #() #(#(1 'it''s')))", "foo ^''", "foo ^'é \\ ~'", "foo ^[:a :b | | c | c := a. [b + c]]",
	} {
		_, s := wantCompiled(t, source)
		told += s
	}
	for _, name := range modelNames[1:] {
		if !strings.Contains(told, " "+name+"\n") && !strings.Contains(told, " "+name+" ") {
			t.Errorf("no %s", name)
		}
	}
}

// P12.3: so can be what reaches the limits.
func TestMadeAtLimits(t *testing.T) {
	of := func(n int, b api.Bound) api.Scoped { return api.Scoped{Body: slices.Repeat([]api.Bound{b}, n)} }
	kids := func(n int, b api.Bound) api.Bound {
		return api.Bound{Kind: api.BoundArray, Kids: slices.Repeat([]api.Bound{b}, n)}
	}
	nothing := api.Bound{Kind: api.BoundNil}
	if c, _ := wantWritten(t, of(2047, nothing)); len(c.Words) != api.MaxCode {
		t.Errorf("%d words", len(c.Words))
	}
	if c, _ := wantWritten(t, of(64, api.Bound{Kind: api.BoundText, Text: strings.Repeat("\xff", api.MaxText)})); len(c.Literals) != api.MaxLiterals {
		t.Errorf("%d literals", len(c.Literals))
	}
	full := of(4, kids(32, kids(31, nothing)))
	wantWritten(t, full)
	full.Body = append(full.Body, kids(0, nothing))
	wantWritten(t, full)
}
