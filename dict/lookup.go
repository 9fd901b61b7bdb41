package dict

import "kiln/api"

// question is what a Lookup is asked: a class's oop and a symbol's number.
type question struct{ class, symbol int }

// answer is what was found: a method, and the class that has it; zeros: none.
type answer struct {
	method, class int
	// sought tells whether the classes were gone through. They are not for a
	// number of no symbol, which may become one later.
	sought bool
}

// Lookup is the method that a class understands a selector by, and the class that has it; 0, 0: none.
func (b *Book) Lookup(class, symbol int) (int, int) {
	if _, e := b.dictionary(class); e != api.OK {
		return 0, 0
	}
	q := question{class, symbol}
	a, asked := b.cache[q]
	if asked {
		b.hits++
	}
	text, e := b.kernel.Symbols().Text(symbol)
	if e == api.OK && !a.sought {
		a = b.seek(class, text)
	}
	b.cache[q] = a
	// Also where the cache knows of a time when it was a symbol's.
	if e != api.OK {
		return 0, 0
	}
	return a.method, a.class
}

// seek goes from a class up to the first one that has the selector.
func (b *Book) seek(class int, selector string) answer {
	// No way up is longer than there are classes: so one that leads round ends, too.
	for range b.kernel.Count() {
		d, e := b.dictionary(class)
		if e != api.OK {
			break
		}
		if m, e := d.at(selector); e == api.OK {
			return answer{m, class, true}
		}
		class, _ = b.kernel.Super(class)
	}
	return answer{sought: true}
}

// Flush empties the cache.
func (b *Book) Flush() {
	if b.made() {
		clear(b.cache)
	}
}

// Hits is how many lookups the cache has answered.
func (b *Book) Hits() int {
	if !b.made() {
		return 0
	}
	return b.hits
}
