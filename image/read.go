package image

import (
	"strconv"
	"strings"

	"kiln/api"
	"kiln/class"
	"kiln/heap"
	"kiln/space"
	"kiln/symbol"
)

// reader goes through the text of an image, line by line.
type reader struct {
	rest string
}

// read is the kernel that a text says, whatever its objects are.
func read(text string) *class.Kernel {
	r := &reader{text}
	demand(r.line() == firstLine)
	room := r.numbers(roomWord, api.MaxWords, api.MaxOops, api.MaxMark)
	t := r.symbols()
	s, e := space.New(room[0], room[1])
	demand(e == api.OK)
	r.objects(s.Heap())
	demand(r.line() == lastLine && r.rest == "")
	// The mark is of later allocations: none of those ahead may come to it.
	demand(s.Heap().Mark(room[2]) == api.OK && s.Crown(api.Root) == api.OK)
	k, e := class.Over(s, t)
	demand(e == api.OK)
	return k
}

func (r *reader) line() string {
	line, rest, ended := strings.Cut(r.rest, "\n")
	demand(ended)
	r.rest = rest
	return line
}

// numbers reads a line of a word and as many numbers as there are bounds.
func (r *reader) numbers(head string, most ...int) []int {
	parts := strings.SplitN(r.line(), " ", 2+len(most))
	demand(len(parts) == 1+len(most) && parts[0] == head)
	list := make([]int, len(most))
	for i := range most {
		list[i] = number(parts[1+i])
		demand(within(list[i], 0, most[i]))
	}
	return list
}

// number is what digits say: none of them that could be left out, and no sign but a needed one.
func number(digits string) int {
	n, e := strconv.Atoi(digits)
	demand(e == nil && strconv.Itoa(n) == digits)
	return n
}

func within(n, least, most int) bool { return n >= least && n <= most }

func (r *reader) symbols() *symbol.Table {
	texts := make([]string, r.numbers(symbolsWord, api.MaxSymbols)[0])
	for i := range texts {
		line := r.line()
		demand(len(line) <= 2*api.MaxSelector)
		texts[i] = string(fromHex(line))
	}
	t, e := symbol.Load(texts, api.MaxSymbols)
	demand(e == api.OK)
	return t
}

// objects lays the objects into a new heap, one behind the other: so each gets its number as its oop.
func (r *reader) objects(h *heap.Heap) {
	_, oops := h.Room()
	for range r.numbers(objectsWord, oops)[0] {
		format, rest, _ := strings.Cut(r.line(), " ")
		class, slots, some := strings.Cut(rest, " ")
		switch format {
		case ofWords:
			layWords(h, class, slots, some)
		case ofBytes:
			layBytes(h, class, slots, some)
		default:
			demand(false)
		}
	}
}

func layWords(h *heap.Heap, class, slots string, some bool) {
	if !some {
		alloc(h, class, 0, api.FormatWords)
		return
	}
	oop := alloc(h, class, 1+strings.Count(slots, " "), api.FormatWords)
	i := 0
	for digits := range strings.SplitSeq(slots, " ") {
		demand(h.Put(oop, i, api.Word(number(digits))) == api.OK)
		i++
	}
}

func layBytes(h *heap.Heap, class, digits string, some bool) {
	// Where there are no bytes there is no blank for them either.
	demand(some == (digits != ""))
	oop := alloc(h, class, len(digits)/2, api.FormatBytes)
	for i, b := range fromHex(digits) {
		demand(h.Put(oop, i, api.Word(b)) == api.OK)
	}
}

// alloc makes an object of a class that is told in digits.
func alloc(h *heap.Heap, class string, n, format int) int {
	oop, e := h.Alloc(api.Word(number(class)), n, format)
	demand(e == api.OK)
	return oop
}

// fromHex is the bytes that are told as two digits each.
func fromHex(digits string) []byte {
	demand(len(digits)%2 == 0)
	bytes := make([]byte, len(digits)/2)
	for i := range bytes {
		high := strings.IndexByte(hexDigits, digits[2*i])
		low := strings.IndexByte(hexDigits, digits[2*i+1])
		demand(high >= 0 && low >= 0)
		bytes[i] = byte(high<<4 | low)
	}
	return bytes
}
