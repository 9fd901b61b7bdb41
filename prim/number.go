package prim

import (
	"kiln/act"
	"kiln/api"
	"kiln/word"
)

func ofInteger() map[string]primitive {
	return map[string]primitive{
		"+":           reckons(word.Add),
		"-":           reckons(word.Sub),
		"*":           reckons(word.Mul),
		"//":          reckons(word.Div),
		"\\\\":        reckons(word.Mod),
		"<":           compares(func(a, b int) bool { return a < b }),
		">":           compares(func(a, b int) bool { return a > b }),
		"<=":          compares(func(a, b int) bool { return a <= b }),
		">=":          compares(func(a, b int) bool { return a >= b }),
		"=":           {do: tells(asked.same)},
		"~=":          {do: tells(asked.other)},
		"negated":     {do: negated},
		"abs":         {do: abs},
		"min:":        reckons(func(a, b int) (int, api.Errno) { return min(a, b), api.OK }),
		"max:":        reckons(func(a, b int) (int, api.Errno) { return max(a, b), api.OK }),
		"even":        leaves(0),
		"odd":         leaves(1),
		"bitAnd:":     reckons(word.And),
		"bitOr:":      reckons(word.Or),
		"bitXor:":     reckons(word.Xor),
		"bitShift:":   reckons(word.Shift),
		"printString": {do: printed},
	}
}

// reckons is what answers a number of the receiver's and x.
func reckons(with func(a, b int) (int, api.Errno)) primitive {
	return primitive{x: isInteger, do: func(a asked) (api.Word, api.Errno) {
		n, e := with(number(a.receiver), number(a.x()))
		if e != api.OK {
			return 0, e
		}
		return word.Int(n)
	}}
}

// compares is what tells how the receiver's number and x stand to each other.
func compares(by func(a, b int) bool) primitive {
	return primitive{x: isInteger, do: tells(func(a asked) bool {
		return by(number(a.receiver), number(a.x()))
	})}
}

// leaves is what tells whether the receiver's number by 2 leaves that.
func leaves(rest int) primitive {
	return primitive{do: tells(func(a asked) bool {
		n, _ := word.Mod(number(a.receiver), 2)
		return n == rest
	})}
}

func negated(a asked) (api.Word, api.Errno) {
	n, e := word.Sub(0, number(a.receiver))
	if e != api.OK {
		return 0, e
	}
	return word.Int(n)
}

func abs(a asked) (api.Word, api.Errno) {
	if number(a.receiver) < 0 {
		return negated(a)
	}
	return itself(a)
}

func printed(a asked) (api.Word, api.Errno) {
	text, e := word.Text(number(a.receiver))
	if e != api.OK {
		return 0, e
	}
	return act.LayString(a.kernel.Space(), text)
}
