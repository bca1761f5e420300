package whole

import (
	"fmt"
	"math/rand"
	"slices"
	"testing"

	"mizzen/api"
	"mizzen/collect"
	"mizzen/machine"
)

func collected(t *testing.T, p api.Program, m api.Machine) (api.Machine, int) {
	t.Helper()
	got, gone, e := collect.Collect(p, m)
	if e != api.OK {
		t.Fatalf("%v: Collect %v: %d", p, m, e)
	}
	if e := machine.Check(p, got); e != api.OK {
		t.Fatalf("%v: Collect %v: %v, of which Check says %d", p, m, got, e)
	}
	return got, gone
}

// alike: two machines, one of which has more blocks that nobody has, or others, and nothing else other.
func alike(t *testing.T, p api.Program, a, b api.Machine) bool {
	t.Helper()
	x, _ := collected(t, p, a)
	y, _ := collected(t, p, b)
	return fmt.Sprint(x) == fmt.Sprint(y)
}

// seen of values: a number, none, or what is in a block.
func seen(l []api.Value, blocks [][]int) string {
	s := ""
	for _, v := range l {
		switch {
		case v.Ref && v.N > 0:
			s += fmt.Sprint("block ", blocks[v.N-1])
		default:
			s += fmt.Sprint(v)
		}
	}
	return s
}

// seenOf a machine: all but which numbers its blocks have.
func seenOf(m api.Machine) string {
	s := fmt.Sprint(m.Status, m.Trap, m.In, m.Out)
	for _, f := range m.Frames {
		s += fmt.Sprint(f.Func, f.Pc, seen(f.Locals, m.Blocks), seen(f.Stack, m.Blocks))
	}
	return s
}

// TestH1Blocks: those that some value has, and no others, in order; values have what they had.
func TestH1Blocks(t *testing.T) {
	var counts [9]int
	along(t, 7, 80, func(_ *rand.Rand, p api.Program, m api.Machine) {
		refs, e := collect.Roots(p, m)
		got, gone := collected(t, p, m)
		if e != api.OK || !slices.IsSorted(refs) || gone != len(m.Blocks)-len(refs) || len(got.Blocks) != len(refs) || seenOf(got) != seenOf(m) {
			t.Fatalf("%v: %v: Roots %v %d, Collect %v %d", p, m, refs, e, got, gone)
		}
		for k, ref := range refs {
			if !slices.Equal(got.Blocks[k], m.Blocks[ref-1]) {
				t.Fatalf("%v: Collect %v: %v", p, m, got)
			}
		}
		again, more := collected(t, p, got)
		if more != 0 || fmt.Sprint(again) != fmt.Sprint(got) {
			t.Fatalf("%v: Collect %v: %v, then %v %d", p, m, got, again, more)
		}
		counts[gone]++
	})
	if slices.Contains(counts[:5], 0) {
		t.Errorf("so many times so many were gone: %v", counts)
	}
}

// TestH2: a machine that was collected, and the same one that was not, go on alike, until there is no room but in the former.
func TestH2(t *testing.T) {
	roomier := 0
	along(t, 8, 100, func(rnd *rand.Rand, p api.Program, m api.Machine) {
		if rnd.Intn(10) > 0 {
			return
		}
		was := m
		lean, gone := collected(t, p, m)
		for left := 12; left > 0 && !ended(m); left-- {
			in := some(rnd)
			m, lean = step(t, p, feed(m, in)), step(t, p, feed(lean, in))
			if m.Trap == api.TrapSize && lean.Status == api.Running && gone > 0 {
				roomier++
				return
			}
			if !alike(t, p, m, lean) || seenOf(m) != seenOf(lean) {
				t.Fatalf("%v: %v comes to %v, and collected to %v", p, was, m, lean)
			}
		}
	})
	if roomier < 5 {
		t.Errorf("only %d times there was more room", roomier)
	}
}

// TestH2Fuel: with fuel, too, and with as much of it.
func TestH2Fuel(t *testing.T) {
	along(t, 9, 60, func(rnd *rand.Rand, p api.Program, m api.Machine) {
		lean, _ := collected(t, p, m)
		fuel := rnd.Intn(40)
		x, left := run(t, p, m, fuel)
		y, rest := run(t, p, lean, fuel)
		if x.Trap != api.TrapSize && (left != rest || !alike(t, p, x, y) || seenOf(x) != seenOf(y)) {
			t.Fatalf("%v: Run %v %d: %v %d, and collected %v %d", p, m, fuel, x, left, y, rest)
		}
	})
}
