package script_test

import (
	"math/rand"
	"strings"
	"testing"

	"kiln/api"
)

// rolls makes things at random.
type rolls struct{ *rand.Rand }

func (r rolls) one(list ...string) string { return list[r.Intn(len(list))] }

func (r rolls) text() string {
	switch r.Intn(6) {
	case 0:
		return ""
	case 1:
		return r.one("x", "Point", "at:put:", "sum ^x + y", "G := P new. G x: 3", "//", "%41", "=", "#", "room", "\u00e9t\u00e9", "\xff\xfe")
	case 2:
		b := make([]byte, r.Intn(12))
		r.Read(b)
		return string(b)
	}
	b := make([]byte, r.Intn(8))
	for i := range b {
		b[i] = plainBytes[r.Intn(len(plainBytes))]
	}
	return string(b)
}

func (r rolls) number() int {
	switch r.Intn(4) {
	case 0:
		return int(r.Uint64())
	case 1:
		return -r.Intn(20)
	}
	return r.Intn(1000)
}

func (r rolls) names() []string {
	var out []string
	for range r.Intn(5) {
		out = append(out, r.text())
	}
	return out
}

// act is one with the fields that its line names, and seldom with others.
func (r rolls) act() api.Act {
	a := api.Act{Kind: 1 + r.Intn(12)}
	for _, f := range append(strings.Fields(modelLines[a.Kind])[1:], fieldNames...) {
		if !strings.Contains(modelLines[a.Kind]+" ", " "+f+" ") && r.Intn(400) > 0 {
			continue
		}
		switch f {
		case "name":
			a.Name = r.text()
		case "other":
			a.Other = r.text()
		case "text":
			a.Text = r.text()
		case "names":
			a.Names = r.names()
		case "number":
			a.Number = r.number()
		case "fuel":
			a.Fuel = r.number()
		}
	}
	if r.Intn(400) == 0 {
		a.Kind = r.Intn(20) - 3
	}
	return a
}

func (r rolls) play() api.Play {
	p := api.Play{Words: r.number(), Oops: r.number()}
	for range r.Intn(12) {
		p.Acts = append(p.Acts, r.act())
	}
	return p
}

// P24.1, P24.2, P24.4: plays at random, and back.
func TestRandomPlays(t *testing.T) {
	r := rolls{rand.New(rand.NewSource(1))}
	codes := map[api.Errno]int{}
	for range 20000 {
		p := r.play()
		codes[prints(t, p)]++
		for _, a := range p.Acts {
			actPrints(t, a)
		}
	}
	if codes[api.OK] < 10000 || codes[api.ErrStep] < 50 || codes[api.ErrPrint] < 50 {
		t.Errorf("too few of a kind: %v", codes)
	}
}

// spoil changes a piece of a text.
func (r rolls) spoil(text string) string {
	from := r.Intn(len(text) + 1)
	to := min(len(text), from+r.Intn(3))
	switch r.Intn(6) {
	case 0:
		return text[:from] + text[to:]
	case 1:
		return text[:from] + text[from:to] + text[from:to] + text[to:]
	case 2:
		return text[:from]
	case 3:
		b := []byte{byte(r.Intn(256))}
		return text[:from] + string(b) + text[to:]
	case 4:
		words := r.one(" ", "=", "%", "%41", "%20", "#", "\n", "\n\n", "0", "-", "room", " =x", " 7", "save", "\nsave\n", "\n#", "\r", "F", "f")
		return text[:from] + words + text[to:]
	}
	lines := strings.SplitAfter(text, "\n")
	i, j := r.Intn(len(lines)), r.Intn(len(lines))
	lines[i], lines[j] = lines[j], lines[i]
	return strings.Join(lines, "")
}

// P24.3, P24.4, P24.5: texts of plays, spoilt here and there.
func TestRandomTexts(t *testing.T) {
	r := rolls{rand.New(rand.NewSource(2))}
	codes := map[api.Errno]int{}
	for range 60000 {
		text, _ := modelPrint(r.play())
		for range r.Intn(4) {
			text = r.spoil(text)
		}
		codes[parses(t, text)]++
	}
	for _, e := range []api.Errno{api.OK, api.ErrText, api.ErrStep, api.ErrWords, api.ErrPlain} {
		if codes[e] < 1000 {
			t.Errorf("too few of a kind: %v", codes)
		}
	}
}

// P24.3: lines put together of words at random, none of which is surely right.
func TestRandomWords(t *testing.T) {
	r := rolls{rand.New(rand.NewSource(3))}
	heads := []string{"class", "method", "remove", "global", "spawn", "run", "reshape", "collect", "inspect", "mark", "save", "load"}
	for range 60000 {
		words := []string{r.one(append(heads, "room", "#", "", "nope")...)}
		for range r.Intn(5) {
			words = append(words, r.one("=x", "=x", "=", "7", "7", "-3", "=%20", "=%78", "", "x", "07", "=a=", "=%f", "#"))
		}
		text := strings.Join(words, " ")
		parses(t, text+"\n")
		parses(t, "room 1 2\n"+text)
	}
}

// P24.6: answers at random.
func TestRandomAnswers(t *testing.T) {
	r := rolls{rand.New(rand.NewSource(4))}
	for range 20000 {
		a := api.Answer{Refusal: api.Refusal{Code: api.Errno(r.number()), Class: r.text(), Selector: r.text(), At: r.number()}, Number: r.number(), State: r.number(), Used: r.number()}
		for range r.Intn(4) {
			a.Text += r.text() + r.one("\n", "", "\n\n", "x")
		}
		tells(t, a, modelTell(a))
	}
}
