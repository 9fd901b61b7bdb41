package proc_test

import (
	"fmt"
	"maps"
	"math/rand"
	"slices"
	"testing"

	"kiln/api"
	"kiln/proc"
)

// P19.6: in pieces of fuel, nothing else being done between, a process comes to
// what it comes to with all of it: events, end, and all that there is.
func TestPieces(t *testing.T) {
	r := rand.New(rand.NewSource(196))
	const fuel = 150
	for _, room := range [][2]int{{4000, 400}, {150, 400}} {
		for _, source := range programs() {
			whole, parts := lively(t, 8000, 800), lively(t, 8000, 800)
			for _, w := range []*world{whole, parts} {
				w.wantRun(w.spawn("H := [^5]. G := P new hands. ^3"), 9, ended(4, num(3)))
				w.spawn(source)
				w.leave(room[0], room[1])
			}
			want := whole.run(2, fuel)
			got := ready(0)
			for got.State == api.Ready && got.Used < fuel {
				used, piece := got.Used, min(r.Intn(5), fuel-got.Used)
				got = parts.run(2, piece)
				if got.State == api.Ready && got.Used != piece {
					t.Fatalf("%q: with the fuel %d: %+v", source, piece, got)
				}
				got.Used += used
			}
			if got != want || parts.seen() != whole.seen() {
				t.Fatalf("%q in %d: %+v, want %+v", source, room, got, want)
			}
		}
	}
}

// alone is programs that have nothing in common but classes, and what they come to by themselves.
func alone() map[string]api.Ran {
	return map[string]api.Ran{
		"^3 + 4": ended(1, num(7)),
		"| n | n := 0. [n < 20] whileTrue: [n := n + 1. P new x: n]. ^n": ended(101, num(20)),
		"| p | p := P new. 1 to: 9 do: [:i | p x: i * 2]. ^p x":          ended(28, num(18)),
		"^P new down: 5": unknown(29, "zork"),
		"^([:a | [:b | a + b]] value: 3) value: 4": ended(5, num(7)),
		"^P new deep": failed(257, api.ErrDeepRun),
		"| s | s := ''. 1 to: 9 do: [:i | s := s , 'ab']. ^s size // 0": failed(19, api.ErrZero),
		"^Q new zork: 1 zork: 2":                 ended(4, num(2)),
		"^3 each: [:i | i = 4 ifTrue: [^i * i]]": ended(14, num(16)),
	}
}

// P19.6: whatever is run between, in whatever order, each comes to what it comes to
// alone; one that is ready stays so until a Run of it ends it.
func TestSchedules(t *testing.T) {
	r := rand.New(rand.NewSource(1966))
	for range 10 {
		w := lively(t, 12000, 1200)
		sources := slices.Sorted(maps.Keys(alone()))
		var got []api.Ran
		for _, source := range sources {
			w.spawn(source)
			got = append(got, ready(0))
		}
		for left := len(sources); left > 0; {
			i := r.Intn(len(sources))
			for j, x := range got {
				if state, e := proc.State(w.k, j+1); state != x.State || e != x.Code {
					t.Fatalf("State(%d) = %d, %d, want %+v", j+1, state, e, x)
				}
			}
			if got[i].State != api.Ready {
				w.wantNoRun(i+1, 3, api.ErrProcess)
				continue
			}
			used := got[i].Used
			got[i] = w.run(i+1, r.Intn(60))
			got[i].Used += used
			if got[i].State != api.Ready {
				left--
			}
		}
		for i, source := range sources {
			if want := alone()[source]; got[i] != want {
				t.Fatalf("%q: %+v, want %+v", source, got[i], want)
			}
		}
	}
}

// pair is a world in which the layer does what is done, and one in which it is done by hand.
type pair struct {
	t         *testing.T
	w, hand   *world
	r         *rand.Rand
	came      map[string]int
	processes int
}

func (p *pair) both(do func(w *world)) {
	do(p.w)
	do(p.hand)
}

func (p *pair) spawn() {
	source := []string{"(", "^x", "^#fresh" + fmt.Sprint(p.r.Intn(99)), "3 new" + fmt.Sprint(p.r.Intn(99))}[p.r.Intn(4)]
	if p.r.Intn(3) > 0 {
		source = programs()[p.r.Intn(len(programs()))]
	}
	n, f := proc.Spawn(p.w.k, source)
	want, g := p.hand.spawnByHand(source)
	if n != want || f != g {
		p.t.Fatalf("Spawn(%q) = %d, %+v, want %d, %+v", source, n, f, want, g)
	}
	p.came[fmt.Sprint("spawn ", int(f.Code))]++
	if f.Code == api.OK {
		p.processes++
	}
}

func (p *pair) run() {
	n, fuel := p.r.Intn(p.processes+2), p.r.Intn(40)
	if p.r.Intn(9) == 0 {
		fuel = []int{-1, 1<<40 + 1, 0}[p.r.Intn(3)]
	}
	got, e := proc.Run(p.w.k, p.w.b, n, fuel)
	want, f := p.hand.runByHand(n, fuel)
	if got != want || e != f {
		p.t.Fatalf("Run(%d, %d) = %+v, %d, want %+v, %d", n, fuel, got, e, want, f)
	}
	p.came[fmt.Sprint("run ", got.State, int(got.Code), int(e))]++
}

// look holds against each other what is told of all processes.
func (p *pair) look() {
	if n := proc.Count(p.w.k); n != p.processes {
		p.t.Fatalf("Count = %d, want %d", n, p.processes)
	}
	for i, cell := range p.hand.cells() {
		switch {
		case cell%4 == 0:
			p.w.wantState(i+1, api.Ready, api.OK)
			top := int(p.hand.at(int(cell/4), api.ProcessTop) / 4)
			if p.w.object(i+1) != int(cell/4) || p.w.top(i+1) != top {
				p.t.Fatalf("the process %d is %d, %d, want %d, %d", i+1, p.w.object(i+1), p.w.top(i+1), cell/4, top)
			}
			p.w.wantStale(top, p.hand.staleByHand(top), api.OK)
		case cell == num(0):
			p.w.wantState(i+1, api.Ended, api.OK)
		default:
			p.w.wantState(i+1, api.Failed, api.Errno(cell/2))
		}
	}
}

// P19.2 to P19.6: acts at random come to what they come to by hand, and leave the same.
func TestActs(t *testing.T) {
	came := map[string]int{}
	for seed := range int64(60) {
		r := rand.New(rand.NewSource(seed))
		words, oops := 2200+r.Intn(2000), 200+r.Intn(300)
		p := &pair{t, lively(t, words, oops), lively(t, words, oops), r, came, 0}
		for range 60 {
			switch r.Intn(12) {
			case 0, 1, 2:
				p.spawn()
			case 3:
				class := []string{"P", "Q"}[r.Intn(2)]
				if v, o := p.w.k.Space().Room(); v > 600 && o > 60 {
					p.both(func(w *world) { w.k.Space().Heap().Mark(0); w.renew(class) })
				}
			case 4:
				mark := r.Intn(30)
				p.both(func(w *world) { w.k.Space().Heap().Mark(mark) })
			case 5:
				p.both(func(w *world) { w.k.Space().Collect() })
			default:
				p.run()
			}
			if p.w.seen() != p.hand.seen() {
				t.Fatalf("with the seed %d they are not the same", seed)
			}
		}
		p.look()
	}
	for _, s := range []string{"spawn 0", "spawn 23", "spawn 24", "spawn 71", "spawn 74", "run 1 0 0", "run 2 0 0", "run 3 183 0", "run 3 180 0", "run 3 23 0", "run 3 24 0", "run 0 0 190", "run 0 0 1"} {
		if came[s] == 0 {
			t.Errorf("nothing has come to %q: %v", s, came)
		}
	}
}
