package script

import "kiln/api"

// step is how an act is said: by which word its line begins, how many words the
// line has, whether it may have more, and what writes and reads those behind the first.
type step struct {
	kind  int
	word  string
	count int
	more  bool
	write func(*writer, *api.Act)
	read  func(*reader, *api.Act)
}

func steps() []step {
	return []step{
		{api.ActClass, "class", 3, true, classWords[*writer], classWords[*reader]},
		{api.ActMethod, "method", 3, false, methodWords[*writer], methodWords[*reader]},
		{api.ActRemove, "remove", 3, false, removeWords[*writer], removeWords[*reader]},
		{api.ActGlobal, "global", 2, false, nameWord[*writer], nameWord[*reader]},
		{api.ActSpawn, "spawn", 2, false, textWord[*writer], textWord[*reader]},
		{api.ActRun, "run", 3, false, runWords[*writer], runWords[*reader]},
		{api.ActReshape, "reshape", 2, true, reshapeWords[*writer], reshapeWords[*reader]},
		{api.ActCollect, "collect", 1, false, noWord[*writer], noWord[*reader]},
		{api.ActInspect, "inspect", 1, false, noWord[*writer], noWord[*reader]},
		{api.ActMark, "mark", 2, false, numberWord[*writer], numberWord[*reader]},
		{api.ActSave, "save", 1, false, noWord[*writer], noWord[*reader]},
		{api.ActLoad, "load", 2, false, textWord[*writer], textWord[*reader]},
	}
}

func stepOf(kind int) (step, bool) {
	return first(func(s step) bool { return s.kind == kind })
}

func stepSaid(word string) (step, bool) {
	return first(func(s step) bool { return s.word == word })
}

func first(good func(step) bool) (step, bool) {
	for _, s := range steps() {
		if good(s) {
			return s, true
		}
	}
	return step{}, false
}

// words is what goes along a line, word by word: a writer, which makes words of
// fields, or a reader, which makes fields of words. So which fields a line has, and
// in which order, is told but once for both, and what is written is what is read.
type words interface {
	text(*string)
	texts(*[]string)
	number(*int)
}

func classWords[W words](w W, a *api.Act) {
	w.text(&a.Name)
	w.text(&a.Other)
	w.texts(&a.Names)
}

func methodWords[W words](w W, a *api.Act) {
	w.text(&a.Name)
	w.text(&a.Text)
}

func removeWords[W words](w W, a *api.Act) {
	w.text(&a.Name)
	w.text(&a.Other)
}

func nameWord[W words](w W, a *api.Act) { w.text(&a.Name) }

func textWord[W words](w W, a *api.Act) { w.text(&a.Text) }

func runWords[W words](w W, a *api.Act) {
	w.number(&a.Number)
	w.number(&a.Fuel)
}

func reshapeWords[W words](w W, a *api.Act) {
	w.text(&a.Name)
	w.texts(&a.Names)
}

func noWord[W words](W, *api.Act) {}

func numberWord[W words](w W, a *api.Act) { w.number(&a.Number) }

// isBare tells whether none of an act's fields says anything.
func isBare(a api.Act) bool {
	return a.Name == "" && a.Other == "" && len(a.Names) == 0 && a.Text == "" && a.Number == 0 && a.Fuel == 0
}
