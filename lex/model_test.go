package lex_test

import (
	"math/rand"
	"regexp"
	"slices"
	"strconv"
	"strings"
	"testing"

	"kiln/api"
	"kiln/lex"
)

// row is a row of the chapter's table, told over as a pattern; the colons of
// names and symbols are looked for behind its match.
type row struct {
	kind    int
	pattern *regexp.Regexp
}

func rows() []row {
	list := []struct {
		kind    int
		pattern string
	}{
		{0, `[ \t\n\r]`},
		{0, `"[^"]*"`},
		{api.TokName, `[A-Za-z][A-Za-z0-9]*`},
		{api.TokInt, `[0-9]+`},
		{api.TokSymbol, `#[A-Za-z][A-Za-z0-9]*`},
		{api.TokSymbol, `#([+*/\\<>=~,%&?@]{1,2}|-)`},
		{api.TokHash, `#\(`},
		{api.TokBinary, `[+*/\\<>=~,%&?@]{1,2}|-`},
		{api.TokText, `'([^']|'')*'`},
		{api.TokAssign, `:=`},
		{api.TokOpen, `\(`},
		{api.TokClose, `\)`},
		{api.TokBlock, `\[`},
		{api.TokEndBlock, `\]`},
		{api.TokBar, `\|`},
		{api.TokColon, `:`},
		{api.TokReturn, `\^`},
		{api.TokDot, `\.`},
		{api.TokCascade, `;`},
	}
	out := make([]row, len(list))
	for i, x := range list {
		out[i] = row{x.kind, regexp.MustCompile(`(?s)^(?:` + x.pattern + `)`)}
	}
	return out
}

// latin makes each byte a rune of its own, so that a pattern takes bytes that are no UTF-8.
func latin(s string) string {
	runes := make([]rune, len(s))
	for i := range len(s) {
		runes[i] = rune(s[i])
	}
	return string(runes)
}

func unlatin(s string) string {
	var out []byte
	for _, r := range s {
		out = append(out, byte(r))
	}
	return string(out)
}

// plainColon tells whether a text begins with a colon that is no assignment's.
func plainColon(s string) bool { return strings.HasPrefix(s, ":") && !strings.HasPrefix(s, ":=") }

var moreKeyword = regexp.MustCompile(`^[A-Za-z][A-Za-z0-9]*`)

// grown is a name's or a symbol's match with the colons that belong to it.
func grown(kind int, match, rest string) (int, string) {
	if kind == api.TokName && plainColon(rest[len(match):]) {
		return api.TokKeyword, match + ":"
	}
	if kind != api.TokSymbol || !moreKeyword.MatchString(match[1:]) {
		return kind, match
	}
	for plainColon(rest[len(match):]) {
		match += ":"
		next := moreKeyword.FindString(rest[len(match):])
		if next == "" || !plainColon(rest[len(match)+len(next):]) {
			break
		}
		match += next
	}
	return kind, match
}

// told is the token that a match is, and whether it is one.
func told(kind int, match string) (api.Token, bool) {
	token := api.Token{Kind: kind}
	switch kind {
	case api.TokName, api.TokBinary:
		token.Text = match
	case api.TokKeyword:
		token.Text = strings.TrimSuffix(match, ":")
	case api.TokSymbol:
		token.Text = match[1:]
	case api.TokText:
		token.Text = unlatin(strings.ReplaceAll(match[1:len(match)-1], "''", "'"))
	case api.TokInt:
		n, err := strconv.ParseInt(match, 10, 64)
		if err != nil || n > 1<<30 {
			return token, false
		}
		token.Number = int(n)
	}
	return token, true
}

// model is a source's tokens told over from the chapter's words, pattern by pattern.
func model(list []row, source string) ([]api.Token, api.Fault) {
	var out []api.Token
	at, rest := 0, latin(source)
next:
	for rest != "" {
		for _, x := range list {
			match := x.pattern.FindString(rest)
			if match == "" {
				continue
			}
			kind, match := grown(x.kind, match, rest)
			token, fits := told(kind, match)
			// A pattern goes back to an end that is one half of a doubled ', where the text has none.
			if !fits || kind == api.TokText && strings.HasPrefix(rest[len(match):], "'") {
				break
			}
			token.At = at
			if kind != 0 {
				out = append(out, token)
			}
			at += len([]rune(match))
			rest = rest[len(match):]
			continue next
		}
		return nil, api.Fault{Code: api.ErrToken, At: at}
	}
	return append(out, api.Token{Kind: api.TokStop, At: at}), api.Fault{}
}

func pick(r *rand.Rand, list ...string) string { return list[r.Intn(len(list))] }

// anySource is a source of bits that are likely to make tokens, with some that make none.
func anySource(r *rand.Rand) string {
	var b strings.Builder
	for range r.Intn(14) {
		switch r.Intn(16) {
		case 0:
			b.WriteString(pick(r, "\"", "'", "#", "$", "_", "\xff", "ä", "\x00"))
		case 1:
			b.WriteString(pick(r, "1073741824", "1073741825", "99999999999999999999", "0", "00"))
		case 2:
			b.WriteString(pick(r, "'it''s'", "'\xc3'", "\"no 'x\"", "''", "\"\""))
		case 3, 4:
			b.WriteString(pick(r, "#a", "#(", "#+", "#-", "#at:put:", "#a:b"))
		case 5, 6, 7:
			b.WriteString(pick(r, ":", ":=", "=", "::"))
		case 8, 9:
			b.WriteString(string(operatorBytes[r.Intn(len(operatorBytes))]))
		case 10:
			b.WriteString(pick(r, "(", ")", "[", "]", "|", "^", ".", ";"))
		case 11:
			b.WriteString(pick(r, " ", "\t", "\n", "\r"))
		default:
			b.WriteString(pick(r, "a", "B", "z9", "7", "self", "x"))
		}
	}
	return b.String()
}

// P7.2: sources at random; what is read of them is what the patterns tell.
func TestSourcesAtRandom(t *testing.T) {
	r := rand.New(rand.NewSource(7))
	list, read := rows(), 0
	for range 60000 {
		source := anySource(r)
		want, wantFault := model(list, source)
		tokens, fault := lex.Tokens(source)
		if fault != wantFault || !slices.Equal(tokens, want) {
			t.Fatalf("Tokens(%q) = %+v, %+v, want %+v, %+v", source, tokens, fault, want, wantFault)
		}
		if fault.Code == api.OK {
			read++
		}
	}
	if read < 10000 {
		t.Fatalf("%d sources alone were read", read)
	}
}

// P7.2: every source of three bytes out of those that tokens are made of.
func TestAllShortSources(t *testing.T) {
	bytes := "aZ0#:=-+'\"(| $\xff"
	list := rows()
	for i := range len(bytes) {
		for j := range len(bytes) {
			for k := range len(bytes) {
				for _, ahead := range []string{"", "#a", "a"} {
					source := ahead + string([]byte{bytes[i], bytes[j], bytes[k]})
					want, wantFault := model(list, source)
					tokens, fault := lex.Tokens(source)
					if fault != wantFault || !slices.Equal(tokens, want) {
						t.Fatalf("Tokens(%q) = %+v, %+v, want %+v, %+v", source, tokens, fault, want, wantFault)
					}
				}
			}
		}
	}
}

// anyToken is a token as a source can have it.
func anyToken(r *rand.Rand) api.Token {
	kind := 1 + r.Intn(17)
	token := mark(kind)
	word := pick(r, "a", "Foo", "self", "x9", strings.Repeat("q", 200))
	sign := pick(r, "+", "-", "<=", "\\\\", ",", "?@", "==")
	switch kind {
	case api.TokName, api.TokKeyword:
		token.Text = word
	case api.TokBinary:
		token.Text = sign
	case api.TokInt:
		token.Number = r.Intn(1<<30 + 1)
	case api.TokSymbol:
		token.Text = pick(r, word, sign, word+":", word+":b:", "a:"+word+":C:")
	case api.TokText:
		token.Text = pick(r, "", "'", "''", "\"", "it's", "\xff\x00", " ", word)
	}
	return token
}

func anyTokens(r *rand.Rand) []api.Token {
	tokens := make([]api.Token, r.Intn(12))
	for i := range tokens {
		tokens[i] = anyToken(r)
	}
	return stopped(tokens...)
}

// P7.6: what Print writes is read as the tokens that it was written of.
func TestPrintIsRead(t *testing.T) {
	r := rand.New(rand.NewSource(76))
	for range 20000 {
		tokens := anyTokens(r)
		source, e := lex.Print(tokens)
		if e != api.OK {
			t.Fatalf("Print(%+v): %d", tokens, e)
		}
		if got := placeless(lexed(t, source)); !slices.Equal(got, tokens) {
			t.Fatalf("%+v was written as %q, read as %+v", tokens, source, got)
		}
	}
}

// P7.3: a Text can be a token's just if a source of that Text alone has it.
func TestPrintTakesWhatIsRead(t *testing.T) {
	r := rand.New(rand.NewSource(73))
	ahead := map[int]string{api.TokName: "", api.TokBinary: "", api.TokSymbol: "#"}
	for range 30000 {
		s := pick(r, "", "a", "B9", "3", "+", "-", ":", "=", "_", "\xff") + pick(r, "", "a", ":", "+", "-", "b:", "=", " ", "9") +
			pick(r, "", "", ":", "c:", "D", "+", "=")
		for kind, hash := range ahead {
			token := api.Token{Kind: kind, Text: s}
			tokens, fault := lex.Tokens(hash + s)
			fits := fault.Code == api.OK && len(tokens) == 2 && tokens[0] == token
			if _, e := lex.Print(stopped(token)); (e == api.OK) != fits {
				t.Fatalf("Print of %+v: %d, and %q is read as %+v", token, e, hash+s, tokens)
			}
		}
	}
}

// P7.4, P7.5: selectors and variables are told as their tokens tell them.
func TestSelectorsAreTokens(t *testing.T) {
	r := rand.New(rand.NewSource(74))
	small := func(x api.Token) bool { return x.Text[0] >= 'a' && x.Text[0] <= 'z' }
	for range 30000 {
		s := pick(r, "a", "B9", "nil", "+", "-", ":", "x:", "_", " ") + pick(r, "", "a", ":", "+", "-", "b:", "Q:", "=", "self:", " ") +
			pick(r, "", "", ":", "c:", "D", "+", "=", "y:z:")
		want, wantE, wantV := 0, api.ErrArg, api.ErrArg
		tokens, fault := lex.Tokens(s)
		tokens = slices.DeleteFunc(tokens, func(x api.Token) bool { return x.Kind == api.TokStop })
		whole := fault.Code == api.OK && !strings.Contains(s, " ")
		switch {
		case whole && len(tokens) == 1 && tokens[0].Kind == api.TokName:
			wantV = api.OK
			if slices.Contains(reserved(), s) {
				wantV = api.ErrReserved
			} else if small(tokens[0]) {
				wantE = api.OK
			}
		case whole && len(tokens) == 1 && tokens[0].Kind == api.TokBinary:
			want, wantE = 1, api.OK
		case whole && len(tokens) > 0 && !slices.ContainsFunc(tokens, func(x api.Token) bool { return x.Kind != api.TokKeyword || !small(x) }):
			want, wantE = len(tokens), api.OK
		}
		wantSelector(t, s, want, wantE)
		wantVariable(t, s, wantV)
	}
}

// own is a token's bytes in its source: up to the next one, without what is passed over.
func own(source string, token, next api.Token) string {
	s := source[token.At:next.At]
	for end := len(s); end > 0; end-- {
		if got, fault := lex.Tokens(s[:end]); fault.Code == api.OK && len(got) == 2 && got[1].At == end && !strings.ContainsAny(s[end-1:end], " \t\n\r\"") {
			return s[:end]
		}
	}
	return s
}

// P7.6: tokens follow one another, with blanks and comments alone between them; one more between two changes nothing but places.
func TestTokensFollow(t *testing.T) {
	r := rand.New(rand.NewSource(77))
	between := regexp.MustCompile(`^(?:[ \t\n\r]|"[^"]*")*$`)
	for range 20000 {
		source := anySource(r)
		tokens, fault := lex.Tokens(source)
		if fault.Code != api.OK {
			continue
		}
		end := 0
		var wider strings.Builder
		for i, token := range tokens {
			if token.At < end || !between.MatchString(latin(source[end:token.At])) {
				t.Fatalf("Tokens(%q) = %+v: %q stands ahead of the token %d", source, tokens, source[end:token.At], i)
			}
			wider.WriteString(source[end:token.At] + pick(r, "", " ", "\t\r", "\n", "\"c'$\"", "\"\" \"\""))
			if i == len(tokens)-1 {
				break
			}
			s := own(source, token, tokens[i+1])
			wider.WriteString(s)
			end = token.At + len(s)
		}
		if tokens[len(tokens)-1].At != len(source) {
			t.Fatalf("Tokens(%q): TokStop at %d", source, tokens[len(tokens)-1].At)
		}
		if got := lexed(t, wider.String()); !slices.Equal(placeless(got), placeless(tokens)) {
			t.Fatalf("%q is read as %+v, %q as %+v", source, tokens, wider.String(), got)
		}
	}
}

// P7.1: no source, and no list of tokens, stops a call short.
func TestNothingPanics(t *testing.T) {
	r := rand.New(rand.NewSource(71))
	for range 20000 {
		bytes := make([]byte, r.Intn(12))
		r.Read(bytes)
		s := string(bytes)
		first, fault := lex.Tokens(s)
		if again, f := lex.Tokens(s); f != fault || !slices.Equal(again, first) {
			t.Fatalf("Tokens(%q) answers two ways", s)
		}
		lex.Selector(s)
		lex.Variable(s)
		token := api.Token{Kind: r.Intn(24) - 3, Text: s, Number: r.Intn(5) - 2, At: r.Intn(9) - 4}
		if text, e := lex.Print(stopped(token)); e != api.OK && text != "" {
			t.Fatalf("Print(%+v) = %q, %d", token, text, e)
		}
	}
}
