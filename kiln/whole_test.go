package kiln_test

import (
	"fmt"
	"testing"

	"kiln/api"
)

// wantCame says that each of these came often enough: an act's kind and a code.
func wantCame(t *testing.T, came map[string]int, many int, list ...any) {
	t.Helper()
	for i := 0; i < len(list); i += 2 {
		if s := fmt.Sprint(list[i], " ", int(list[i+1].(api.Errno))); came[s] < many {
			t.Errorf("of the act and the answer %s there were only %d", s, came[s])
		}
	}
}

// P25.6: scripts at random, with all the room that they need, are answered as
// the model answers them: acts, runs, images, marks.
func TestModel(t *testing.T) {
	t.Parallel()
	came := map[string]int{}
	for seed := range int64(300) {
		newPair(t, 60000, 6000, false, came).plays(newAuthor(seed), 60)
	}
	wantCame(t, came, 5, api.ActClass, api.OK, api.ActMethod, api.OK, api.ActRemove, api.OK, api.ActGlobal, api.OK, api.ActSpawn, api.OK, api.ActRun, api.OK, api.ActReshape, api.OK, api.ActMark, api.OK, api.ActLoad, api.OK,
		api.ActRun, api.ErrUnderstood, api.ActRun, api.ErrPrim, api.ActRun, api.ErrZero, api.ActRun, api.ErrIndex, api.ActRun, api.ErrBool, api.ActRun, api.ErrStale, api.ActRun, api.ErrDeepRun, api.ActRun, api.ErrMarked,
		api.ActClass, api.ErrMarked, api.ActMethod, api.ErrMarked, api.ActSpawn, api.ErrMarked, api.ActReshape, api.ErrMarked, api.ActReshape, api.ErrUnknown, api.ActReshape, api.ErrBelow, api.ActMethod, api.ErrUnknown, api.ActRun, api.ErrProcess)
}

// P25.7, P25.14: in narrow rooms, event by event: what has no room is just what
// the image of a twin, taken ahead of it, leaves no room for; and what is marked.
func TestFull(t *testing.T) {
	t.Parallel()
	came := map[string]int{}
	for seed := range int64(160) {
		w := newAuthor(7000 + seed)
		newPair(t, 600+w.Intn(700), 70+w.Intn(120), true, came).plays(w, 60)
	}
	wantCame(t, came, 1, api.ActClass, api.ErrFull, api.ActMethod, api.ErrFull, api.ActRemove, api.ErrFull, api.ActSpawn, api.ErrFull, api.ActRun, api.ErrFull, api.ActReshape, api.ErrFull,
		api.ActClass, api.OK, api.ActMethod, api.OK, api.ActSpawn, api.OK, api.ActRun, api.OK, api.ActReshape, api.OK, api.ActRun, api.ErrMarked, api.ActReshape, api.ErrMarked, api.ActRun, api.ErrStale)
}
