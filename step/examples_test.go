package step_test

import (
	"testing"

	"kiln/api"
	"kiln/step"
)

// The chapter's examples, by their numbers.

func TestExample1(t *testing.T) {
	w := begin(t)
	w.wantGo(w.spawn("^3"), 0, ended(0, num(3)))
}

func TestExample2(t *testing.T) {
	w := begin(t)
	p := w.spawn("^3 + 4")
	w.wantGo(p, 0, ready(0))
	w.wantNext(p, "send +")
	w.wantGo(p, 1, ended(1, num(7)))
}

func TestExample3(t *testing.T) {
	w := begin(t)
	p := w.spawn("| p | p := P new. ^p sum")
	w.wantGo(p, 0, ready(0))
	w.wantNext(p, "send new")
	w.wantGo(p, 1, ready(1))
	w.wantNext(p, "send sum")
	w.wantGo(p, 1, ready(1))
	w.wantNext(p, "send +")
	w.wantGo(p, 1, unknown(1, "+"))
}

func TestExample4(t *testing.T) {
	w := begin(t)
	p := w.spawn("1 to: 3 do: [:i | ]")
	w.wantGo(p, 0, ready(0))
	w.wantNext(p, "jump")
	w.wantGo(p, 2, ended(2, null))
	p = w.spawn("[true] whileTrue: []")
	for _, fuel := range []int{0, 1, 2, 500, 10000} {
		w.wantGo(p, fuel, ready(fuel))
		w.wantNext(p, "jump")
	}
}

func TestExample5(t *testing.T) {
	w := begin(t)
	p := w.spawn("^[:a | a] value: 5")
	w.wantGo(p, 0, ready(0))
	w.wantNext(p, "block")
	w.wantGo(p, 1, ready(1))
	w.wantNext(p, "send value:")
	w.wantGo(p, 1, ended(1, num(5)))
	w.wantDoit("^[:a | a] value: 5", ended(2, num(5)))
	w.wantDoit("^[:a | a] value", failed(2, api.ErrPrim))
	w.wantDoit("[^5] value. ^6", ended(2, num(5)))
}

func TestExample6(t *testing.T) {
	w := begin(t)
	w.wantDoit("G := [^5]", ended(1, null))
	w.wantDoit("^G value", failed(1, api.ErrHome))
}

func TestExample7(t *testing.T) {
	w := begin(t)
	w.wantDoit("3 foo: 4", unknown(1, "foo:"))
	w.method("Integer", "doesNotUnderstand: m ^m arguments")
	p := w.spawn("^3 foo: 4")
	r := step.Go(w.k, w.b, p, 99)
	if r.State != api.Ended || r.Used != 2 {
		t.Fatalf("3 foo: 4: %+v", r)
	}
	if c, _ := w.k.Of(r.Value); c != api.Array {
		t.Fatalf("its arguments are of the class %d", c)
	}
	wantSlots(t, "its arguments", w.slots(int(r.Value/4)), num(4))
}

func TestExample8(t *testing.T) {
	w := begin(t)
	w.wantDoit("P new deep", failed(257, api.ErrDeepRun))
}

func TestExample9(t *testing.T) {
	w := begin(t)
	w.wantGo(w.spawn("nil ifTrue: [3]"), 0, failed(0, api.ErrBool))
	w.wantGo(w.spawn("1 to: nil do: [:i | ]"), 0, failed(0, api.ErrPrim))
}

func TestExample10(t *testing.T) {
	w := begin(t)
	w.method("Object", "foo ^1")
	w.method("P", "foo ^2")
	w.method("P", "over ^super foo")
	w.method("Object", "above ^super foo")
	w.wantDoit("^P new over", ended(3, num(1)))
	w.wantDoit("^P new above", unknown(3, "foo"))
	w.method("P", "doesNotUnderstand: m ^m selector")
	w.wantDoit("^P new above", ended(4, api.Word(4*w.symbol("foo")+2)))
	w.wantDoit("^3 above", unknown(2, "foo"))
}

func TestExample11(t *testing.T) {
	w := begin(t)
	if r := step.Go(nil, w.b, 3, 5); r != (api.Ran{Code: api.ErrNil}) {
		t.Fatalf("without a kernel: %+v", r)
	}
	w.wantGo(1, 5, api.Ran{Code: api.ErrContext})
	w.wantNext(1, "")
}
