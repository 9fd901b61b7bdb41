package step_test

import (
	"math/rand"
	"testing"

	"kiln/api"
	"kiln/step"
)

// programs is what is run below, in a world of lively.
func programs() []string {
	return []string{
		"^3", "^3 + 4", "| p | p := P new. ^p sum", "1 to: 9 do: [:i | P new]. ^1 to: 0 do: [:i | ]",
		"| n | n := 0. [n < 5] whileTrue: [n := n + 1. G := [n]]. ^G value", "^P new zork: 3 zork: 4", "^P new deep",
		"^[:a | [:b | a + b]] value: 3", "^([:a | [:b | a + b]] value: 3) value: 4", "^P new find: 3 in: #(1 2 3 4)", "^P new find: 9 in: #(1 2 3 4)",
		"G := [^5]. ^[G value] value", "^nil foo", "nil ifTrue: [3]", "^('a' , 'b') asSymbol size + 1 // 0", "[true] whileTrue: [P new]",
		"| a | a := Array new: 3. 1 to: 3 do: [:i | a at: i put: i * i]. ^(a at: 1) + (a at: 2) + (a at: 3)", "^super isNil", "^P new; new; yourself",
	}
}

func lively(t *testing.T, words, oops int) *world {
	w := beginIn(t, words, oops)
	w.method("P", "doesNotUnderstand: m ^m arguments")
	w.method("P", "each: a do: b 1 to: a size do: [:i | b value: (a at: i)]")
	w.method("P", "find: v in: a self each: a do: [:w | w = v ifTrue: [^w]]. ^0")
	w.k.Space().Collect()
	return w
}

// P18.6: with pieces of fuel it comes to what it comes to with all of it, event
// by event, allocation by allocation, in wide rooms and in narrow ones.
func TestPieces(t *testing.T) {
	r := rand.New(rand.NewSource(18))
	codes := map[api.Errno]int{}
	for _, room := range [][2]int{{4000, 400}, {150, 400}, {4000, 8}} {
		for _, source := range programs() {
			for _, mark := range []int{0, 1, 2, 3, 7} {
				const fuel = 300
				whole := lively(t, 6000, 600)
				p := whole.spawn(source)
				whole.leave(room[0], room[1])
				whole.k.Space().Heap().Mark(mark)
				want := step.Go(whole.k, whole.b, p, fuel)
				codes[want.Code]++
				for range 3 {
					parts := lively(t, 6000, 600)
					if q := parts.spawn(source); q != p {
						t.Fatalf("the processes are %d, %d", p, q)
					}
					parts.leave(room[0], room[1])
					parts.k.Space().Heap().Mark(mark)
					got := api.Ran{State: api.Ready}
					for used := 0; got.State == api.Ready && used < fuel; used = got.Used {
						piece := min(r.Intn(4), fuel-used)
						got = step.Go(parts.k, parts.b, p, piece)
						if got.State == api.Ready && got.Used != piece {
							t.Fatalf("%q: with the fuel %d: %+v", source, piece, got)
						}
						if got.State == api.Ready && step.Next(parts.k, p) == "" {
							t.Fatalf("%q: it stands ahead of no event", source)
						}
						got.Used += used
					}
					if got != want || parts.seen() != whole.seen() {
						t.Fatalf("%q in %d with the mark %d: %+v, want %+v", source, room, mark, got, want)
					}
				}
			}
		}
	}
	for _, e := range []api.Errno{api.OK, api.ErrFull, api.ErrMarked, api.ErrDeepRun, api.ErrUnderstood} {
		if codes[e] == 0 {
			t.Fatalf("nothing has come to %d: %d", e, codes)
		}
	}
}

// P18.2: a process that is ready stands right ahead of its event: nothing of it was done.
func TestReadyStands(t *testing.T) {
	for _, source := range programs() {
		w := lively(t, 6000, 600)
		p := w.spawn(source)
		for range 100 {
			if r := step.Go(w.k, w.b, p, 1); r.State != api.Ready {
				break
			}
			was := w.seen()
			for _, fuel := range []int{0, 0, -1} {
				w.wantGo(p, fuel, ready(0))
			}
			if w.seen() != was {
				t.Fatalf("%q: without fuel something was done", source)
			}
		}
	}
}

// P18.6: at every event the receiver has as many slots as its class has fields.
func TestLayoutsHold(t *testing.T) {
	for _, source := range programs() {
		w := lively(t, 6000, 600)
		p := w.spawn(source)
		for range 200 {
			if r := step.Go(w.k, w.b, p, 1); r.State != api.Ready {
				break
			}
			x := w.info(w.top(p))
			c, e := w.k.Of(x.Receiver)
			if e != api.OK {
				t.Fatalf("%q: Of(%d) = %d", source, x.Receiver, e)
			}
			if c != api.Object && c <= api.Message {
				continue
			}
			fields, _ := w.k.Fields(c)
			if n := len(w.slots(int(x.Receiver / 4))); n != len(fields) {
				t.Fatalf("%q: a receiver of %d slots, of %d fields", source, n, len(fields))
			}
		}
	}
}

// P18.2: with any fuel it goes on, however much was done.
func TestMuchFuel(t *testing.T) {
	w := begin(t)
	p := w.spawn("[true] whileTrue: [G]")
	w.wantGo(p, 300000, ready(300000))
	w.wantNext(p, "jump")
}

// P18.5: what stands ahead, and what does not.
func TestNext(t *testing.T) {
	w := begin(t)
	w.method("P", "over: a ^super a: a b: a")
	for _, c := range []struct {
		source string
		all    []string
	}{
		{"^3", nil},
		{"3 + 4. ^5 foo; at: 1 put: 2", []string{"send +", "send foo"}},
		{"^[:a | a] value: 3 + 4", []string{"block", "send +", "send value:"}},
		{"^super isNil", []string{"super isNil"}},
		{"^P new over: 3", []string{"send new", "send over:", "super a:b:"}},
		{"1 to: 3 do: [:i | i odd]. ^1", []string{"send odd", "jump", "send odd", "jump", "send odd"}},
		{"| n | n := 0. [n < 1] whileTrue: [n := n + 1]", []string{"send <", "send +", "jump", "send <"}},
		{"| n | n := 0. [n > 0] whileFalse: [n := n + 1]", []string{"send >", "send +", "jump", "send >"}},
		{"^nil ifTrue: [3]", nil},
		{"^[[] value] value", []string{"block", "send value", "block", "send value"}},
	} {
		p := w.spawn(c.source)
		// Nothing that is no event is told, though it may stand ahead of one.
		if c.source != "" && c.source[0] != '[' {
			if first := step.Next(w.k, p); first != "" && first != "block" {
				t.Fatalf("%q: Next = %q at the beginning", c.source, first)
			}
		}
		var all []string
		for step.Go(w.k, w.b, p, 0).State == api.Ready {
			all = append(all, step.Next(w.k, p))
			w.wantNext(p, all[len(all)-1])
			if step.Go(w.k, w.b, p, 1).State != api.Ready {
				break
			}
		}
		if len(all) != len(c.all) {
			t.Fatalf("%q: %q, want %q", c.source, all, c.all)
		}
		for i, s := range c.all {
			if all[i] != s {
				t.Fatalf("%q: %q, want %q", c.source, all, c.all)
			}
		}
	}
}

// P18.5: the events of a doit's first instruction, and of others.
func TestNextAtTheBeginning(t *testing.T) {
	w := begin(t)
	w.wantNext(w.spawn("[]"), "block")
	w.wantNext(w.spawn("^3"), "")
	w.wantNext(w.spawn("3 foo"), "")
	for _, words := range [][]int{{api.OpSelf}, {api.OpInt, 3}, {api.OpJump, 1, api.OpNil}, {api.OpReturn}, {api.OpFirst, 0, 0}, {0}, {29}, {-1}, {}, {api.OpSend, 0}} {
		p, _ := w.within(words...)
		w.wantNext(p, "")
	}
	s := w.symbol("sum")
	for _, c := range []struct {
		words []int
		want  string
	}{
		{[]int{api.OpSend, s, 0}, "send sum"}, {[]int{api.OpSuper, s, 3}, "super sum"}, {[]int{api.OpBlock, 0, 0, 2, 2, 22}, "block"}, {[]int{api.OpBack, 0}, "jump"},
	} {
		p, _ := w.within(c.words...)
		w.wantNext(p, c.want)
	}
}
