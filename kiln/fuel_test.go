package kiln_test

import (
	"math/rand"
	"testing"

	"kiln/api"
	"kiln/kiln"
)

// pieces does an act; a run in pieces of fuel. The answer is the last one's, with
// the events of all.
func pieces(m *kiln.Machine, a api.Act, next func(left int) int) api.Answer {
	if a.Kind != api.ActRun || a.Fuel <= 0 || a.Fuel > 1<<40 {
		return m.Do(a)
	}
	fuel, used := a.Fuel, 0
	for {
		a.Fuel = min(next(fuel-used), fuel-used)
		x := m.Do(a)
		used += x.Used
		if x.State != api.Ready || used == fuel {
			x.Used = used
			return x
		}
	}
}

// P25.14: however the fuel is cut, all comes to the same.
func TestFuel(t *testing.T) {
	stories(t, 2500, 90, 60, func(seed int64, s *story) {
		r := rand.New(rand.NewSource(seed))
		for _, most := range []int{2, 9, 100} {
			s.again("P25.14", teller{do: func(m *kiln.Machine, a api.Act) api.Answer {
				return pieces(m, a, func(int) int { return r.Intn(most) })
			}})
		}
	})
}
