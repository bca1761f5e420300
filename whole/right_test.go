package whole

import (
	"fmt"
	"math/rand"
	"slices"
	"testing"

	"mizzen/api"
	"mizzen/fresh"
	"mizzen/machine"
)

// TestF4 runs programs that fit, each step of which is to be right; and each op, each trap and each status must have come.
func TestF4(t *testing.T) {
	var ops [22]int
	var traps [6]int
	var statuses [4]int
	along(t, 1, 250, func(_ *rand.Rand, p api.Program, m api.Machine) {
		statuses[m.Status]++
		traps[m.Trap]++
		if !ended(m) {
			inmost := m.Frames[len(m.Frames)-1]
			ops[p.Funcs[inmost.Func].Code[inmost.Pc].Code]++
		}
	})
	for code, many := range ops[1:] {
		if many == 0 {
			t.Errorf("no op %d", code+1)
		}
	}
	if slices.Contains(traps[1:], 0) || slices.Contains(statuses[:], 0) {
		t.Errorf("traps %v, statuses %v", traps, statuses)
	}
}

// spoilt: a machine with something other in it, far from right or not.
func spoilt(rnd *rand.Rand, m api.Machine) api.Machine {
	m = fresh.Machine(m)
	number := func() int { return int(rnd.Uint64()) >> (rnd.Intn(2) * rnd.Intn(64)) }
	if rnd.Intn(3) > 0 {
		number = func() int { return rnd.Intn(9) - 1 }
	}
	change := func(l []api.Value) {
		if len(l) > 0 {
			l[rnd.Intn(len(l))] = api.Value{Ref: rnd.Intn(2) == 0, N: number()}
		}
	}
	switch rnd.Intn(10) {
	case 0:
		m.Status = number()
	case 1:
		m.Status, m.Trap = api.Trapped, number()
	case 2:
		m.Blocks = append(m.Blocks, []int{number()})
	case 3:
		m.In = append(m.In, number())
	case 4:
		m.Out = append(m.Out, make([]int, rnd.Intn(12))...)
	}
	if len(m.Frames) == 0 {
		return m
	}
	f := &m.Frames[rnd.Intn(len(m.Frames))]
	switch rnd.Intn(8) {
	case 0:
		f.Func = number()
	case 1:
		f.Pc = number()
	case 2, 3, 4:
		change(f.Locals)
	case 5, 6:
		change(f.Stack)
	case 7:
		m.Frames = m.Frames[:rnd.Intn(len(m.Frames)+1)]
	}
	return m
}

// TestF4SpoiltMachines: whatever Check takes, come to or not, steps to what Check takes; and whatever it does not take, no call does. Nothing panics.
func TestF4SpoiltMachines(t *testing.T) {
	right, wrong := 0, map[api.Errno]int{}
	along(t, 2, 120, func(rnd *rand.Rand, p api.Program, m api.Machine) {
		m = spoilt(rnd, m)
		e := machine.Check(p, m)
		if e == api.OK {
			right++
			step(t, p, m)
			return
		}
		wrong[e]++
		for _, c := range calls {
			if next, n, f := c.do(p, m); f != e || n != 0 || fmt.Sprint(next) != fmt.Sprint(api.Machine{}) {
				t.Fatalf("%v: %s %v: %v %d %d, want %d", p, c.name, m, next, n, f, e)
			}
		}
	})
	if right < 500 || len(wrong) != 6 || slices.ContainsFunc([]api.Errno{api.ErrForm, api.ErrMany, api.ErrRange, api.ErrState, api.ErrNone, api.ErrKind}, func(e api.Errno) bool { return wrong[e] < 10 }) {
		t.Errorf("%d are right, wrong ones %v", right, wrong)
	}
}
