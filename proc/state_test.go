package proc_test

import (
	"math"
	"testing"

	"kiln/api"
	"kiln/class"
	"kiln/proc"
	"kiln/space"
	"kiln/symbol"
)

// P19.1: without a kernel.
func TestNil(t *testing.T) {
	for _, k := range []*class.Kernel{nil, new(class.Kernel)} {
		for _, source := range []string{"^3", "(", ""} {
			if n, f := proc.Spawn(k, source); n != 0 || f != fault(api.ErrNil, 0) {
				t.Fatalf("Spawn = %d, %+v", n, f)
			}
		}
		if n := proc.Count(k); n != 0 {
			t.Fatalf("Count = %d", n)
		}
		for _, n := range []int{0, 1, -1, math.MaxInt, math.MinInt} {
			if s, e := proc.State(k, n); s != 0 || e != api.ErrNil {
				t.Fatalf("State = %d, %d", s, e)
			}
			if s, e := proc.Object(k, n); s != 0 || e != api.ErrNil {
				t.Fatalf("Object = %d, %d", s, e)
			}
			if s, e := proc.Top(k, n); s != 0 || e != api.ErrNil {
				t.Fatalf("Top = %d, %d", s, e)
			}
			if r, e := proc.Run(k, nil, n, n); r != (api.Ran{}) || e != api.ErrNil {
				t.Fatalf("Run = %+v, %d", r, e)
			}
		}
	}
}

// P19.4: a kernel has no processes at the beginning, and numbers beyond the last are none's.
func TestStates(t *testing.T) {
	w := begin(t)
	far := []int{0, -1, math.MaxInt, math.MinInt, math.MinInt + 1, 1 << 62, 1 << 32, 65536}
	for count := range 9 {
		if proc.Count(w.k) != count {
			t.Fatalf("Count = %d, want %d", proc.Count(w.k), count)
		}
		for _, n := range append(far, count+1, count+2) {
			w.wantState(n, 0, api.ErrProcess)
			w.wantNoProcess(n)
		}
		n := w.spawn([]string{"^3", "nil ifTrue: [3]", "3 stay"}[count%3])
		if n != count+1 || w.cells()[count] != obj(w.object(n)) || w.at(w.object(n), api.ProcessTop) != obj(w.top(n)) {
			t.Fatalf("the process %d of %d", n, w.cells())
		}
	}
	for n := 1; n <= 9; n++ {
		w.wantState(n, api.Ready, api.OK)
	}
	for n := 9; n >= 1; n-- {
		w.run(n, 0)
	}
	for n := 1; n <= 9; n++ {
		switch n % 3 {
		case 1:
			w.wantState(n, api.Ended, api.OK)
			w.wantNoProcess(n)
		case 2:
			w.wantState(n, api.Failed, api.ErrBool)
			w.wantNoProcess(n)
		case 0:
			w.wantState(n, api.Ready, api.OK)
		}
	}
	// A number is never used again.
	if n := w.spawn("^3"); n != 10 {
		t.Fatalf("Spawn = %d", n)
	}
}

// P19.4: the Process stays the same object, its top context is the one that runs.
func TestObjectAndTop(t *testing.T) {
	w := lively(t, 9000, 900)
	n := w.spawn("^P new deep")
	p, first := w.object(n), w.top(n)
	w.wantRun(n, 1, ready(1))
	if w.top(n) != first {
		t.Fatal("a primitive has made another context the top one")
	}
	for depth := 2; depth <= 40; depth++ {
		w.wantRun(n, 1, ready(1))
		if w.object(n) != p || w.info(w.top(n)).Depth != depth || w.top(n) == first {
			t.Fatalf("the process %d, its top context %+v", w.object(n), w.info(w.top(n)))
		}
		w.k.Space().Collect()
	}
}

// P19.4: cells that are neither a Process nor an integer are no process.
func TestOtherCells(t *testing.T) {
	w := begin(t)
	n := w.spawn("^3")
	good := w.object(n)
	w.keep(good)
	lay := func(class, n, format int, first ...api.Word) api.Word {
		x, e := w.k.Space().Alloc(obj(class), n, format)
		if e != api.OK {
			t.Fatalf("Alloc = %d", e)
		}
		for i, v := range first {
			w.put(int(x/4), i, v)
		}
		w.k.Space().Keep(x)
		return x
	}
	top := obj(w.top(n))
	for _, cell := range []api.Word{
		null, empty, 2, obj(60000), top, obj(w.named("P")),
		lay(api.Process, 0, 0), lay(api.Process, 2, 0, top, null), lay(api.Process, 1, 0), lay(api.Process, 1, 0, num(3)), lay(api.Process, 1, 1, 4), lay(api.Array, 1, 0, top),
	} {
		w.put(w.array(), n-1, cell)
		w.wantState(n, 0, api.ErrProcess)
		w.wantNoProcess(n)
	}
	w.put(w.array(), n-1, lay(api.Process, 1, 0, top))
	w.wantState(n, api.Ready, api.OK)
	for _, code := range []api.Errno{api.ErrStale, api.ErrFull, api.ErrMarked, api.ErrDeepRun} {
		w.put(w.array(), n-1, num(int(code)))
		w.wantState(n, api.Failed, code)
		w.wantNoProcess(n)
	}
	w.put(w.array(), n-1, num(0))
	w.wantState(n, api.Ended, api.OK)
	w.put(w.array(), n-1, obj(good))
	w.wantRun(n, 0, ended(0, num(3)))
}

// P19.4: another kernel over the same space and symbols knows the same processes.
func TestOver(t *testing.T) {
	w := begin(t)
	n := w.spawn("^3 + 4")
	k, e := class.Over(w.k.Space(), w.k.Symbols())
	if e != api.OK {
		t.Fatalf("Over = %d", e)
	}
	other := &world{t, k, w.b}
	other.wantState(n, api.Ready, api.OK)
	other.wantRun(n, 1, ended(1, num(7)))
	w.wantState(n, api.Ended, api.OK)
	// And two kernels have nothing in common.
	apart := begin(t)
	apart.wantState(n, 0, api.ErrProcess)
}

// P19.1: over spaces and symbols that no kernel left.
func TestOverOthers(t *testing.T) {
	bare, _ := space.New(100, 10)
	crowned, _ := space.New(4000, 400)
	crowned.Alloc(64, 12, 0)
	crowned.Crown(1)
	for i := range 12 {
		crowned.SetRoot(i, 4)
	}
	none, _ := symbol.New(0)
	some, _ := symbol.New(4096)
	known := begin(t)
	for _, s := range []*space.Space{bare, crowned, new(space.Space), known.k.Space()} {
		for _, x := range []*symbol.Table{none, some, new(symbol.Table)} {
			k, _ := class.Over(s, x)
			askAll(t, &world{t, k, known.b}, 30)
		}
	}
}
