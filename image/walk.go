package image

import (
	"kiln/api"
	"kiln/class"
	"kiln/object"
	"kiln/word"
)

// walk is the objects of a kernel that have a number.
type walk struct {
	kernel  *class.Kernel
	met     []object.Object // by their numbers, the first of which is 1
	numbers map[int]int     // by oop
}

func newWalk(k *class.Kernel) *walk {
	w := &walk{kernel: k, numbers: map[int]int{}}
	for i := range api.Root {
		w.number(object.Of(k, i+1))
	}
	// What an object leads to lets the list grow: its end is asked for each time.
	for i := 0; i < len(w.met); i++ {
		w.lead(w.met[i])
	}
	return w
}

// lead meets what an object leads to.
func (w *walk) lead(o object.Object) {
	w.meet(o.Class())
	if o.Format() != api.FormatWords {
		return
	}
	for i := range o.Size() {
		w.meet(o.ObjectAt(i))
	}
}

// meet gives an object that is there a number, if it has none.
func (w *walk) meet(o object.Object) {
	if _, there := w.numbers[o.Oop()]; there {
		return
	}
	if _, e := o.Word(); e == api.OK {
		w.number(o)
	}
}

// number gives an object the next number.
func (w *walk) number(o object.Object) {
	w.met = append(w.met, o)
	w.numbers[o.Oop()] = len(w.met)
}

// keepsOops tells whether each object's number is its oop.
func (w *walk) keepsOops() bool {
	for i, o := range w.met {
		if o.Oop() != i+1 {
			return false
		}
	}
	return true
}

// renamed is a word in which an object is named by its number. One that has
// none becomes 0, which is no word: so no image with it is taken.
func (w *walk) renamed(x api.Word) api.Word {
	oop, e := word.Oop(x)
	if e != api.OK {
		return x
	}
	named, _ := word.Object(w.numbers[oop])
	return named
}
