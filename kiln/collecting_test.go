package kiln_test

import (
	"math/rand"
	"testing"

	"kiln/api"
	"kiln/kiln"
)

// P25.12: an ActCollect ahead of any act, or of all, changes no answer and no image.
func TestCollecting(t *testing.T) {
	stories(t, 1200, 60, 60, func(seed int64, s *story) {
		r := rand.New(rand.NewSource(seed))
		for _, n := range []int{1, 3} {
			s.again("P25.12", teller{ahead: func(m *kiln.Machine, _ int) *kiln.Machine {
				if r.Intn(n) == 0 {
					if x := m.Do(api.Act{Kind: api.ActCollect}); x != (api.Answer{}) {
						t.Fatalf("P25.12: Collect = %+v", x)
					}
				}
				return m
			}})
		}
	})
}

// P25.12: nor does one between the events of a process.
func TestCollectingWithin(t *testing.T) {
	stories(t, 1300, 40, 60, func(_ int64, s *story) {
		s.again("P25.12", teller{do: func(m *kiln.Machine, a api.Act) api.Answer {
			return pieces(m, a, func(int) int {
				m.Do(api.Act{Kind: api.ActCollect})
				return 1
			})
		}})
	})
}

// P25.12: what is garbage takes no room: a loop that makes much goes on for long.
func TestGarbage(t *testing.T) {
	m := newMachine(t, 400, 60)
	m.Do(api.Act{Kind: api.ActSpawn, Text: "1 to: 2000 do: [:i | Array new: 50. [:a | a]. 'abc' copy]. ^7"})
	want := api.Answer{Number: 1, State: api.Ended, Used: 2000*3 + 1999, Text: "7"}
	if x := m.Do(api.Act{Kind: api.ActRun, Number: 1, Fuel: 100000}); x != want {
		t.Fatalf("P25.12: %+v, want %+v", x, want)
	}
}

// P25.3, P25.12: Room is what would be free, whenever it is asked.
func TestRoomIsOfTheLive(t *testing.T) {
	stories(t, 1400, 20, 60, func(_ int64, s *story) {
		s.again("P25.3", teller{behind: func(m *kiln.Machine, i int) {
			words, oops := m.Room()
			m.Do(api.Act{Kind: api.ActCollect})
			if v, w := m.Room(); v != words || w != oops {
				t.Fatalf("P25.3: Room = %d, %d, and behind a collection %d, %d", words, oops, v, w)
			}
		}})
	})
}
