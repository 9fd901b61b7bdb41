package kiln_test

import (
	"strconv"
	"strings"
	"testing"

	"kiln/api"
	"kiln/kiln"
)

// picture is an image taken apart: objects by their numbers, the first at 1.
type picture struct {
	words, oops, mark int
	symbols           []string
	objects           []thing
}

// thing is an object in an image; a class is an object's number.
type thing struct {
	bytes bool
	class int
	slots []int // of words the words, else the bytes
}

// ints is the numbers behind a line's first word.
func ints(line string) []int {
	var list []int
	for _, s := range strings.Fields(line)[1:] {
		n, _ := strconv.Atoi(s)
		list = append(list, n)
	}
	return list
}

func unhex(digits string) string {
	var text []byte
	for i := 0; i < len(digits); i += 2 {
		n, _ := strconv.ParseUint(digits[i:i+2], 16, 8)
		text = append(text, byte(n))
	}
	return string(text)
}

// pictured takes an image's text apart.
func pictured(text string) *picture {
	lines := strings.Split(text, "\n")
	room, count := ints(lines[1]), ints(lines[2])[0]
	p := &picture{words: room[0], oops: room[1], mark: room[2], objects: []thing{{}}}
	for _, s := range lines[3 : 3+count] {
		p.symbols = append(p.symbols, unhex(s))
	}
	for _, s := range lines[4+count : len(lines)-2] {
		x := thing{bytes: s[0] == 'b'}
		if x.bytes {
			words := strings.Fields(s)
			n, _ := strconv.Atoi(words[1])
			x.class = n / 4
			for _, c := range []byte(unhex(strings.Join(words[2:], ""))) {
				x.slots = append(x.slots, int(c))
			}
		} else {
			list := ints(s)
			x.class, x.slots = list[0]/4, list[1:]
		}
		p.objects = append(p.objects, x)
	}
	return p
}

// free is what is left of the room: all that is in an image is live.
func (p *picture) free() (words, oops int) {
	words, oops = p.words, p.oops-(len(p.objects)-1)
	for _, x := range p.objects[1:] {
		if x.bytes {
			words -= 2 + (len(x.slots)+3)/4
		} else {
			words -= 2 + len(x.slots)
		}
	}
	return words, oops
}

// at is the object that a slot names.
func (p *picture) at(object, slot int) int { return p.objects[object].slots[slot] / 4 }

// instances is how many objects have the class with that number.
func (p *picture) instances(number int) int {
	class := p.at(p.at(api.Root, api.RootClasses), number-1)
	n := 0
	for _, x := range p.objects[1:] {
		if x.class == class {
			n++
		}
	}
	return n
}

// save is the machine's image. It is the last one that was saved from now on.
func save(t *testing.T, m *kiln.Machine) *picture {
	t.Helper()
	a := m.Do(api.Act{Kind: api.ActSave})
	if a.Code != api.OK || a.Number != len(m.Saved()) || a != (api.Answer{Number: a.Number}) {
		t.Fatalf("P25.2: Save = %+v, and %d bytes are saved", a, len(m.Saved()))
	}
	return pictured(m.Saved())
}
