package reshape

import (
	"kiln/act"
	"kiln/api"
	"kiln/become"
	"kiln/class"
	"kiln/dict"
)

// transaction is a reshape that goes on. Till its commit it changes no object
// that was there; it only makes new ones, in a bracket of the space.
type transaction struct {
	*act.Act
	kernel  *class.Kernel
	book    *dict.Book
	own     []string
	names   []api.Word // the symbols of own
	list    api.Word   // the Array of these
	classes []*shaping // by rising numbers: the class itself is the first

	begun, committed bool
}

func newTransaction(k *class.Kernel, b *dict.Book, own []string, changes []api.Change) *transaction {
	t := &transaction{
		Act:    act.Begin(k.Space(), k.Symbols()),
		kernel: k,
		book:   b,
		own:    own,
	}
	for _, c := range changes {
		t.classes = append(t.classes, newShaping(k, c))
	}
	return t
}

// run does the steps, one behind the other, till one refuses.
func (t *transaction) run() api.Refusal {
	defer func() {
		// A bracket that the transaction did not open is the caller's.
		if t.begun && !t.committed {
			t.kernel.Space().Abort()
			t.Back()
		}
	}()
	for _, step := range []func(*transaction) api.Refusal{
		(*transaction).check,
		(*transaction).begin,
		(*transaction).addSymbols,
		(*transaction).layNames,
		(*transaction).layMethods,
		(*transaction).layBodies,
		(*transaction).commit,
	} {
		if r := step(t); r.Code != api.OK {
			return r
		}
	}
	return api.Refusal{}
}

// check tells which method would not compile under the new fields.
func (t *transaction) check() api.Refusal {
	for _, c := range t.classes {
		if r := c.check(); r.Code != api.OK {
			return r
		}
	}
	return api.Refusal{}
}

// begin opens the bracket, and finds the instances: what nothing leads to is
// away then, and no new body is there yet.
func (t *transaction) begin() api.Refusal {
	if e := t.kernel.Space().Begin(); e != api.OK {
		return api.Refusal{Code: e}
	}
	t.begun = true
	there := t.byClass()
	for _, c := range t.classes {
		w, _ := c.class.Word()
		c.instances = there[w]
	}
	return api.Refusal{}
}

// byClass is the oops of all objects by the words of their classes, each list rising.
func (t *transaction) byClass() map[api.Word][]int {
	h := t.kernel.Space().Heap()
	lists := map[api.Word][]int{}
	for _, oop := range h.All() {
		w, _ := h.Class(oop)
		lists[w] = append(lists[w], oop)
	}
	return lists
}

func (t *transaction) addSymbols() api.Refusal {
	var e api.Errno
	t.names, e = t.Symbols(t.own...)
	return api.Refusal{Code: e}
}

func (t *transaction) layNames() api.Refusal {
	var e api.Errno
	t.list, e = layArray(t.kernel, t.names)
	return api.Refusal{Code: e}
}

func (t *transaction) layMethods() api.Refusal {
	for _, c := range t.classes {
		if e := c.layMethods(); e != api.OK {
			return api.Refusal{Code: e}
		}
	}
	return api.Refusal{}
}

func (t *transaction) layBodies() api.Refusal {
	for _, c := range t.classes {
		if e := c.layBodies(); e != api.OK {
			return api.Refusal{Code: e}
		}
	}
	return api.Refusal{}
}

// commit lets what was made take its place. Behind it nothing is refused.
func (t *transaction) commit() api.Refusal {
	if e := t.kernel.Space().Commit(); e != api.OK {
		return api.Refusal{Code: e}
	}
	t.committed = true
	t.exchange()
	for _, c := range t.classes {
		c.settle()
	}
	t.classes[0].class.Put(api.ClassOwn, t.list)
	t.book.Flush()
	return api.Refusal{}
}

// exchange lets each instance become what its new body is, and frees what it was.
func (t *transaction) exchange() {
	var instances, bodies []int
	for _, c := range t.classes {
		instances = append(instances, c.instances...)
		bodies = append(bodies, c.bodies...)
	}
	h := t.kernel.Space().Heap()
	become.Swap(h, instances, bodies)
	for _, oop := range bodies {
		h.Free(oop)
	}
}
