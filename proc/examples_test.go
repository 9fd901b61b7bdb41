package proc_test

import (
	"testing"

	"kiln/api"
	"kiln/proc"
)

// The chapter's examples, line by line.

func TestExampleStates(t *testing.T) {
	w := begin(t)
	n, f := proc.Spawn(w.k, "^3 + 4")
	if n != 1 || f != (api.Fault{}) || proc.Count(w.k) != 1 {
		t.Fatalf("Spawn = %d, %+v; Count = %d", n, f, proc.Count(w.k))
	}
	w.wantState(1, api.Ready, api.OK)
	w.wantRun(1, 0, ready(0))
	w.wantRun(1, 5, ended(1, num(7)))
	w.wantState(1, api.Ended, api.OK)
	w.wantNoRun(1, 5, api.ErrProcess)
	if top, e := proc.Top(w.k, 1); top != 0 || e != api.ErrProcess {
		t.Fatalf("Top = %d, %d", top, e)
	}
	if n, _ = proc.Spawn(w.k, "^3"); n != 2 {
		t.Fatalf("Spawn = %d", n)
	}
	w.wantRun(2, 0, ended(0, num(3)))
	if n, _ = proc.Spawn(w.k, "^3 foo"); n != 3 {
		t.Fatalf("Spawn = %d", n)
	}
	w.wantRun(3, 9, unknown(1, "foo"))
	w.wantState(3, api.Failed, api.ErrUnderstood)
	w.wantNoSpawn("^x", fault(api.ErrUnknown, 1))
	w.wantNoRun(9, 1, api.ErrProcess)
	w.wantNoRun(0, -1, api.ErrProcess)
	w.wantState(4, 0, api.ErrProcess)
	if n, _ = proc.Spawn(w.k, "^3 + 4"); n != 4 {
		t.Fatalf("Spawn = %d", n)
	}
	w.wantNoRun(4, -1, api.ErrArg)
	w.wantNoRun(4, 1<<40+1, api.ErrArg)
}

func TestExampleReshape(t *testing.T) {
	w := begin(t)
	w.method("P", "wait [true] whileTrue: [x := 1]")
	w.method("Object", "stay [true] whileTrue: []")
	w.spawn("^P new wait")
	w.spawn("^P new stay")
	w.wantRun(1, 9, ready(9))
	w.wantRun(2, 9, ready(9))
	w.raise("P")
	w.wantRun(1, 0, failed(0, api.ErrStale))
	w.wantRun(2, 9, ready(9))
}

func TestExampleMark(t *testing.T) {
	w := begin(t)
	w.k.Space().Heap().Mark(4)
	symbols := w.k.Symbols().Count()
	had := len(w.k.Space().Heap().State().Objects)
	w.wantNoSpawn("^3", fault(api.ErrMarked, 0))
	made := w.k.Space().Heap().State().Objects[had:]
	if len(made) != 3 || made[0].Class != obj(api.Array) || made[1].Class != obj(api.String) || made[2].Class != obj(api.Method) {
		t.Fatalf("made were %v", made)
	}
	if n := w.k.Symbols().Count(); n != symbols {
		t.Fatalf("of %d symbols there are %d", symbols, n)
	}
}
