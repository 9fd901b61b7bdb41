package listing_test

import (
	"fmt"
	"math"
	"math/rand"
	"regexp"
	"slices"
	"strconv"
	"strings"
	"testing"

	"kiln/api"
	"kiln/listing"
)

// The model: a code's listing is put together from what the chapter says, one line
// a time; a text is a listing just if what it seems to say is written as that text.

var modelNames = strings.Fields("? self nil true false int lit sym class field temp global storefield storetemp storeglobal " +
	"pop dup send super block return homereturn blockreturn jump iftrue iffalse back first next")

var modelOperands = map[string]int{
	"int": 1, "lit": 1, "sym": 1, "class": 1, "field": 1, "global": 1, "storefield": 1, "storeglobal": 1, "jump": 1, "iftrue": 1, "iffalse": 1, "back": 1,
	"temp": 2, "storetemp": 2, "send": 2, "super": 2, "first": 2, "next": 2, "block": 3,
}

// modelLit is a literal as it is written; of one that may not be, no text.
func modelLit(l api.Lit, left *int) (string, api.Errno) {
	bare := l
	bare.Kind = 0
	shown := ""
	switch l.Kind {
	case api.LitInt, api.LitSymbol:
		bare.Number = 0
		shown = fmt.Sprint(l.Number)
		if l.Kind == api.LitSymbol {
			shown = "#" + shown
		}
	case api.LitText:
		bare.Text = ""
		shown = modelText(l.Text)
	case api.LitArray:
		bare.Items = nil
	case api.LitNil, api.LitTrue, api.LitFalse:
		shown = strings.Fields("nil true false")[l.Kind-api.LitNil]
	default:
		return "", api.ErrListing
	}
	if bare.Text != "" || bare.Number != 0 || len(bare.Items) > 0 || len(l.Text) > 256 || len(l.Items) > 32 {
		return "", api.ErrListing
	}
	if *left--; *left < 0 {
		return "", api.ErrLong
	}
	if l.Kind != api.LitArray {
		return shown, api.OK
	}
	var parts []string
	for _, x := range l.Items {
		part, e := modelLit(x, left)
		if e != api.OK {
			return "", e
		}
		parts = append(parts, part)
	}
	return "(" + strings.Join(parts, " ") + ")", api.OK
}

func modelText(s string) string {
	shown := "'"
	for _, c := range []byte(s) {
		if strings.ContainsRune(`'\`, rune(c)) {
			shown += `\`
		}
		if c < ' ' || c > '~' {
			shown += fmt.Sprintf(`\x%02x`, c)
		} else {
			shown += string(rune(c))
		}
	}
	return shown + "'"
}

func modelPrint(c api.Code) (string, api.Errno) {
	if len(c.Words) > 4096 || len(c.Literals) > 64 {
		return "", api.ErrLong
	}
	out := fmt.Sprintf("code %d %d %d\n", c.Args, c.Temps, c.Stack)
	left := 4096
	for _, l := range c.Literals {
		left++ // it is no element itself
		shown, e := modelLit(l, &left)
		name := map[int]string{api.LitText: "text", api.LitArray: "array"}[l.Kind]
		if name == "" {
			e = api.ErrListing
		}
		if e != api.OK {
			return "", e
		}
		out += name + " " + shown + "\n"
	}
	for at := 0; at < len(c.Words); {
		op := c.Words[at]
		if op < 1 || op >= len(modelNames) || at+modelOperands[modelNames[op]] >= len(c.Words) {
			return "", api.ErrOpcode
		}
		line := []string{fmt.Sprint(at), modelNames[op]}
		for _, n := range c.Words[at+1 : at+1+modelOperands[modelNames[op]]] {
			line = append(line, fmt.Sprint(n))
		}
		out += strings.Join(line, " ") + "\n"
		at += len(line) - 1
	}
	return out, api.OK
}

var modelPiece = regexp.MustCompile(`'(?:\\.|[^'\\])*'|[()]|[^ ()']+`)

// modelGuess is what a text may say, read as loosely as can be.
func modelGuess(text string) api.Code {
	var c api.Code
	for _, line := range strings.Split(text, "\n") {
		word, rest, _ := strings.Cut(line, " ")
		switch word {
		case "code":
			fmt.Sscan(rest, &c.Args, &c.Temps, &c.Stack)
		case "text", "array":
			pieces := modelPiece.FindAllString(rest, -1)
			l, _ := guessLit(pieces)
			c.Literals = append(c.Literals, l)
		default:
			c.Words = append(c.Words, guessWords(rest)...)
		}
	}
	return c
}

func guessWords(rest string) []int {
	var out []int
	for i, word := range strings.Fields(rest) {
		n, _ := strconv.Atoi(word)
		if i == 0 {
			n = slices.Index(modelNames, word)
		}
		out = append(out, n)
	}
	return out
}

// guessLit is what the first pieces say, and the pieces behind them.
func guessLit(pieces []string) (api.Lit, []string) {
	if len(pieces) == 0 {
		return api.Lit{}, nil
	}
	first, rest := pieces[0], pieces[1:]
	constants := map[string]int{"nil": api.LitNil, "true": api.LitTrue, "false": api.LitFalse}
	switch {
	case first == "(":
		l := array()
		for len(rest) > 0 && rest[0] != ")" {
			var x api.Lit
			x, rest = guessLit(rest)
			l.Items = append(l.Items, x)
		}
		return l, rest[min(1, len(rest)):]
	case strings.HasPrefix(first, "'"):
		inside := strings.ReplaceAll(first[1:len(first)-1], `\'`, "'")
		said, _ := strconv.Unquote(`"` + strings.ReplaceAll(inside, `"`, `\"`) + `"`)
		return text(said), rest
	case constants[first] > 0:
		return constant(constants[first]), rest
	case strings.HasPrefix(first, "#"):
		n, _ := strconv.Atoi(first[1:])
		return symbolic(n), rest
	}
	n, _ := strconv.Atoi(first)
	return integer(n), rest
}

// modelParse is the line that is wrong; 0: none is. The lines up to one begin a
// listing just if they are one.
func modelParse(s string) (api.Code, int) {
	for n := 1; ; n++ {
		end := 0
		for range n {
			at := strings.Index(s[end:], "\n")
			if at < 0 {
				return api.Code{}, n
			}
			end += at + 1
		}
		c := modelGuess(strings.TrimSuffix(s[:end], "\n"))
		if shown, e := modelPrint(c); e != api.OK || shown != s[:end] {
			return api.Code{}, n
		}
		if end == len(s) {
			return c, 0
		}
	}
}

// grower makes codes at random.
type grower struct {
	*rand.Rand
	left int // how many elements more
}

func (g *grower) number() int {
	numbers := []int{0, 1, -1, 9, 10, -10, 28, 29, 4096, math.MaxInt, math.MinInt, math.MaxInt32}
	if g.Intn(3) > 0 {
		return g.Intn(40) - 4
	}
	return numbers[g.Intn(len(numbers))]
}

func (g *grower) text() string {
	out := make([]byte, g.Intn(6))
	for i := range out {
		out[i] = byte(g.Intn(256))
		if g.Intn(2) == 0 {
			out[i] = `'\x0a"( )#`[g.Intn(10)]
		}
	}
	return string(out)
}

func (g *grower) lit() api.Lit {
	g.left--
	switch kind := 1 + g.Intn(7); kind {
	case api.LitInt, api.LitSymbol:
		return api.Lit{Kind: kind, Number: g.number()}
	case api.LitText:
		return text(g.text())
	case api.LitArray:
		l := array()
		for range g.Intn(5) {
			if g.left > 0 {
				l.Items = append(l.Items, g.lit())
			}
		}
		return l
	default:
		return constant(kind)
	}
}

func (g *grower) code() api.Code {
	c := api.Code{Args: g.number(), Temps: g.number(), Stack: g.number()}
	g.left = 30
	for range g.Intn(4) {
		if g.Intn(2) == 0 {
			c.Literals = append(c.Literals, text(g.text()))
			continue
		}
		c.Literals = append(c.Literals, array(g.lit(), g.lit()))
	}
	for range g.Intn(8) {
		op := 1 + g.Intn(28)
		c.Words = append(c.Words, op)
		for range modelOperands[modelNames[op]] {
			c.Words = append(c.Words, g.number())
		}
	}
	return c
}

// spoil changes something of a literal, somewhere in it.
func (g *grower) spoil(l *api.Lit) {
	if len(l.Items) > 0 && g.Intn(3) > 0 {
		g.spoil(&l.Items[g.Intn(len(l.Items))])
		return
	}
	switch g.Intn(5) {
	case 0:
		l.Kind = g.Intn(11) - 1
	case 1:
		l.Number = g.number()
	case 2:
		l.Text = strings.Repeat(g.text(), 1+g.Intn(100))
	case 3:
		l.Items = append(l.Items, g.lit())
	case 4:
		l.Items = slices.Repeat([]api.Lit{g.lit()}, 31+g.Intn(3))
	}
}

// P12.1, P12.3: codes at random, whole and spoilt.
func TestPrintAtRandom(t *testing.T) {
	g := &grower{Rand: rand.New(rand.NewSource(1))}
	got := map[api.Errno]int{}
	for range 30000 {
		c := g.code()
		for range g.Intn(3) {
			if len(c.Literals) > 0 && g.Intn(2) == 0 {
				g.spoil(&c.Literals[g.Intn(len(c.Literals))])
			}
			if len(c.Words) > 0 && g.Intn(2) == 0 {
				c.Words[g.Intn(len(c.Words))] = g.number()
			}
			if len(c.Words) > 0 && g.Intn(4) == 0 {
				c.Words = c.Words[:g.Intn(len(c.Words))]
			}
		}
		s, e := modelPrint(c)
		got[e]++
		if e != api.OK {
			wantRefused(t, e, c)
			continue
		}
		wantBoth(t, c, s)
	}
	if got[api.OK] < 5000 || got[api.ErrListing] < 1000 || got[api.ErrOpcode] < 1000 {
		t.Errorf("%v", got)
	}
}

// wantLikeModel holds what is read from a text against the model.
func wantLikeModel(t *testing.T, s string) int {
	t.Helper()
	c, line := modelParse(s)
	if line > 0 {
		wantWrong(t, line, s)
		return line
	}
	wantBoth(t, c, s)
	return 0
}

// P12.2, P12.3: texts at random, near to listings.
func TestParseAtRandom(t *testing.T) {
	g := &grower{Rand: rand.New(rand.NewSource(2))}
	const bytes = "0123456789 -+#'()\\xabcdefnilt\n\n\r\tsé"
	good, wrong := 0, 0
	for range 20000 {
		s, e := modelPrint(g.code())
		if e != api.OK {
			t.Fatalf("no listing: %d", e)
		}
		for range g.Intn(3) {
			s = g.scratch(s, bytes)
		}
		if wantLikeModel(t, s) == 0 {
			good++
		} else {
			wrong++
		}
	}
	if good < 4000 || wrong < 4000 {
		t.Errorf("%d are listings, %d not", good, wrong)
	}
}

// scratch changes a text in one place.
func (g *grower) scratch(s, bytes string) string {
	at := g.Intn(len(s) + 1)
	to := at + g.Intn(min(3, len(s)-at+1))
	some := bytes[g.Intn(len(bytes)):][:1]
	all := strings.SplitAfter(s, "\n")
	one, other := g.Intn(len(all)), g.Intn(len(all))
	switch g.Intn(6) {
	case 0:
		return s[:at] + s[to:]
	case 1:
		return s[:at] + some + s[at:]
	case 2:
		return s[:at] + some + s[to:]
	case 3:
		all[one], all[other] = all[other], all[one]
	case 4:
		all[one] = all[other]
	case 5:
		return s[:to] + s[at:]
	}
	return strings.Join(all, "")
}

// each goes through all texts of these pieces, so many of them at most.
func each(pieces []string, most int, look func(string)) {
	look("")
	if most == 0 {
		return
	}
	for _, piece := range pieces {
		each(pieces, most-1, func(rest string) { look(piece + rest) })
	}
}

// P12.2: all short lines of certain pieces.
func TestAllShort(t *testing.T) {
	seen, good := 0, 0
	look := func(head, tail string) func(string) {
		return func(s string) {
			seen++
			if wantLikeModel(t, head+s+tail) == 0 {
				good++
			}
		}
	}
	each([]string{"(", ")", " ", "1", "0", "-", "#", "'", "nil"}, 5, look("code 0 0 0\narray (", "\n"))
	each([]string{"'", `\`, "x", "0", "a", "f", "6", "A", " "}, 5, look("code 0 0 0\ntext '", "'\n"))
	each([]string{"0", "1", "-", " ", "nil", "int", "temp"}, 5, look("code 0 0 0\n", "\n"))
	each([]string{"code", " ", "0", "-1", "\n", "text", "''", "self"}, 5, look("code 0 ", ""))
	if seen < 100000 || good < 1000 {
		t.Errorf("%d seen, %d are listings", seen, good)
	}
}

// P12.3: the model writes and reads the chapter's words, too.
func TestModel(t *testing.T) {
	s := behind(`text 'it\'s'`, `array (1 #5 '\x0a' nil ())`, "0 int -3", "2 storetemp 0 9", "5 block 0 0 2", "9 nil", "10 blockreturn")
	c, line := modelParse(s)
	if line != 0 || len(c.Literals) != 2 || len(c.Words) != 11 {
		t.Fatalf("%+v, %d", c, line)
	}
	if got, _, e := listing.Parse(s); e != api.OK || !same(got, c) {
		t.Fatalf("%+v, %d", got, e)
	}
}
