package whole

import (
	"fmt"
	"math/rand"
	"testing"

	"mizzen/api"
	"mizzen/machine"
	"mizzen/meter"
)

// fueled: what Run is to do, by one Step after the other.
func fueled(p api.Program, m api.Machine, fuel int) (api.Machine, int) {
	for first := true; m.Status == api.Running || first && m.Status == api.Waiting; first = false {
		f := m.Frames[len(m.Frames)-1]
		cost := map[int]int{api.OpNew: 3, api.OpCall: 2}[p.Funcs[f.Func].Code[f.Pc].Code]
		if fuel < max(cost, 1) {
			break
		}
		fuel -= max(cost, 1)
		m, _ = machine.Step(p, m)
	}
	return m, fuel
}

func run(t *testing.T, p api.Program, m api.Machine, fuel int) (api.Machine, int) {
	t.Helper()
	got, left, e := meter.Run(p, m, fuel)
	if e != api.OK || left < 0 || left > fuel {
		t.Fatalf("%v: Run %v %d: %v %d %d", p, m, fuel, got, left, e)
	}
	if e := machine.Check(p, got); e != api.OK {
		t.Fatalf("%v: Run %v %d: %v, of which Check says %d", p, m, fuel, got, e)
	}
	return got, left
}

func TestG1ByStepAfterStep(t *testing.T) {
	var statuses [4]int
	along(t, 5, 60, func(rnd *rand.Rand, p api.Program, m api.Machine) {
		fuel := rnd.Intn(30)
		got, left := run(t, p, m, fuel)
		want, rest := fueled(p, m, fuel)
		if fmt.Sprint(got, left) != fmt.Sprint(want, rest) {
			t.Fatalf("%v: Run %v %d: %v %d, want %v %d", p, m, fuel, got, left, want, rest)
		}
		statuses[got.Status]++
	})
	for status, many := range statuses {
		if many < 20 {
			t.Errorf("status %d: %d times", status, many)
		}
	}
}

// TestG2: with a part of the fuel, and then with the rest. (One that waits behind its part pays once more, for asking again.)
func TestG2(t *testing.T) {
	along(t, 6, 80, func(rnd *rand.Rand, p api.Program, m api.Machine) {
		part, rest := rnd.Intn(20), rnd.Intn(20)
		want, left := run(t, p, m, part+rest)
		between, over := run(t, p, m, part)
		got, last := run(t, p, between, over+rest)
		if between.Status == api.Waiting && over < part && over+rest > 0 {
			left--
		}
		if fmt.Sprint(got, last) != fmt.Sprint(want, left) {
			t.Fatalf("%v: Run %v %d and %d: %v %d, want %v %d", p, m, part, rest, got, last, want, left)
		}
	})
}
