package symbol_test

import (
	"math/rand"
	"slices"
	"strings"
	"testing"

	"kiln/api"
	"kiln/symbol"
)

// model is a table told over from the chapter's words: a list that is looked through.
type model struct {
	texts []string
	most  int
}

func (m *model) find(text string) (int, bool) {
	if n := slices.Index(m.texts, text); n >= 0 {
		return n, true
	}
	return 0, false
}

func (m *model) add(text string) (int, api.Errno) {
	n, there := m.find(text)
	switch {
	case len(text) < 1 || len(text) > 96:
		return 0, api.ErrSymbol
	case there:
		return n, api.OK
	case len(m.texts) == m.most:
		return 0, api.ErrSymbols
	}
	m.texts = append(m.texts, text)
	return len(m.texts) - 1, api.OK
}

func (m *model) back(count int) api.Errno {
	if count < 0 || count > len(m.texts) {
		return api.ErrArg
	}
	m.texts = m.texts[:count]
	return api.OK
}

// anyText is one of few texts, so that many come again; some are none of a symbol.
func anyText(r *rand.Rand) string {
	switch r.Intn(12) {
	case 0:
		return strings.Repeat("s", r.Intn(3)+95)
	case 1:
		return ""
	}
	text := make([]byte, r.Intn(2)+1)
	for i := range text {
		text[i] = "ab:\x00\xff"[r.Intn(5)]
	}
	return string(text)
}

// turn tells the table and the model the same, once.
func turn(t *testing.T, r *rand.Rand, x *symbol.Table, m *model) {
	t.Helper()
	switch r.Intn(8) {
	case 0:
		count := r.Intn(len(m.texts)+3) - 1
		wantBack(t, x, count, m.back(count))
	case 1:
		text := anyText(r)
		n, there := m.find(text)
		wantFind(t, x, text, n, there)
	default:
		text := anyText(r)
		n, e := m.add(text)
		wantAdd(t, x, text, n, e)
	}
	wantTexts(t, x, m.texts...)
}

// P6.1 to P6.6: tables at random; now and then (P6.5) one of what All tells goes on in the table's place.
func TestTablesAtRandom(t *testing.T) {
	for seed := range int64(200) {
		r := rand.New(rand.NewSource(seed))
		m := &model{most: r.Intn(30)}
		x := made(t, m.most)
		for range 150 {
			turn(t, r, x, m)
			if r.Intn(20) == 0 {
				x = loaded(t, m.most, x.All()...)
			}
		}
	}
}

// P6.5: behind a Back the table is one to which what was taken never came.
func TestBackLeavesNothing(t *testing.T) {
	for seed := range int64(100) {
		r := rand.New(rand.NewSource(seed))
		m := &model{most: r.Intn(20)}
		x, never := made(t, m.most), made(t, m.most)
		for range r.Intn(10) {
			text := anyText(r)
			n, e := m.add(text)
			wantAdd(t, x, text, n, e)
			wantAdd(t, never, text, n, e)
		}
		count := x.Count()
		for range 20 {
			x.Add(anyText(r))
		}
		wantBack(t, x, count, api.OK)
		for range 50 {
			text := anyText(r)
			n, there := never.Find(text)
			wantFind(t, x, text, n, there)
			n, e := never.Add(text)
			wantAdd(t, x, text, n, e)
			wantTexts(t, x, never.All()...)
		}
	}
}
