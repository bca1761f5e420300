package whole

import (
	"fmt"
	"math/rand"
	"slices"
	"testing"

	"mizzen/api"
	"mizzen/machine"
	"mizzen/world"
)

// worldCalls: those that answer a world, and maybe a number.
var worldCalls = []struct {
	name string
	do   func(p api.Program, w api.World) (api.World, int, api.Errno)
}{
	{"Mail", world.Mail},
	{"Turn 0", func(p api.Program, w api.World) (api.World, int, api.Errno) { return turn(p, w, 0) }},
	{"Turn 20", func(p api.Program, w api.World) (api.World, int, api.Errno) { return turn(p, w, 20) }},
	{"Send", func(p api.Program, w api.World) (api.World, int, api.Errno) {
		next, e := world.Send(p, w, len(w.Machines)-1, -5)
		return next, 0, e
	}},
}

func turn(p api.Program, w api.World, fuel int) (api.World, int, api.Errno) {
	next, e := world.Turn(p, w, fuel)
	return next, 0, e
}

// box: a list of numbers that differ, from one on, no more than a box may have.
func box(rnd *rand.Rand, first int) []int {
	l := make([]int, rnd.Intn(api.MaxBox+1)*rnd.Intn(2))
	for k := range l {
		l[k] = first + k
	}
	return l
}

// worlds of so many programs that fit: machines that came up side by side, with this and that in their boxes.
func worlds(t *testing.T, seed int64, programs int, try func(rnd *rand.Rand, p api.Program, w api.World)) {
	t.Helper()
	rnd := rand.New(rand.NewSource(seed))
	for range programs {
		p := someProgram(t, rnd)
		for range 5 {
			var w api.World
			for k := range 1 + rnd.Intn(api.MaxMachines) {
				m, _ := run(t, p, start(t, p), rnd.Intn(60))
				m.Out = append(m.Out, box(rnd, 1000*k)...)
				m.Out = m.Out[:min(len(m.Out), api.MaxBox)]
				if m.Status != api.Waiting {
					m.In = box(rnd, 1000*k+500)
				}
				w.Machines = append(w.Machines, m)
			}
			try(rnd, p, w)
		}
	}
}

// mailed: what Mail is to do, number by number.
func mailed(w api.World) (api.World, int) {
	var out api.World
	for _, m := range w.Machines {
		m.In, m.Out = slices.Clone(m.In), slices.Clone(m.Out)
		out.Machines = append(out.Machines, m)
	}
	went := 0
	for k := range out.Machines {
		from := &out.Machines[k]
		to := &out.Machines[0]
		if k < len(out.Machines)-1 {
			to = &out.Machines[k+1]
		}
		for len(from.Out) > 0 && len(to.In) < 10 {
			to.In, from.Out = append(to.In, from.Out[0]), from.Out[1:]
			if to.Status == api.Waiting {
				to.Status = api.Running
			}
			went++
		}
	}
	return out, went
}

func TestI1MailNumberByNumber(t *testing.T) {
	some, woken := 0, 0
	worlds(t, 20, 60, func(_ *rand.Rand, p api.Program, w api.World) {
		got, n, e := world.Mail(p, w)
		want, went := mailed(w)
		if fmt.Sprint(got) != fmt.Sprint(want) || n != went || e != api.OK || world.Check(p, got) != api.OK {
			t.Fatalf("%v: Mail %v: %v %d %d, want %v %d", p, w, got, n, e, want, went)
		}
		some += min(n, 1)
		for k, m := range w.Machines {
			if m.Status == api.Waiting && got.Machines[k].Status == api.Running {
				woken++
			}
		}
	})
	if some < 50 || woken < 10 {
		t.Errorf("mail went %d times, woke %d machines", some, woken)
	}
}

// TestI2 over many turns: each machine does what it does alone, and whatever was sent is at the next one, or stays, once.
func TestI2(t *testing.T) {
	var statuses [4]int
	worlds(t, 21, 40, func(rnd *rand.Rand, p api.Program, w api.World) {
		for range 6 {
			fuel := rnd.Intn(50)
			var ran api.World
			for _, m := range w.Machines {
				alone, _ := run(t, p, m, fuel)
				ran.Machines = append(ran.Machines, alone)
				statuses[alone.Status]++
			}
			want, _ := mailed(ran)
			got, e := world.Turn(p, w, fuel)
			if fmt.Sprint(got) != fmt.Sprint(want) || e != api.OK || world.Check(p, got) != api.OK {
				t.Fatalf("%v: Turn %v %d: %v %d, want %v", p, w, fuel, got, e, want)
			}
			wantKept(t, ran, got)
			w = got
		}
	})
	if slices.ContainsFunc(statuses[:], func(many int) bool { return many < 20 }) {
		t.Errorf("statuses %v", statuses)
	}
}

// wantKept: that each one's Out is at the end of the next one's In, and in its Out, in order, and nothing else is.
func wantKept(t *testing.T, before, after api.World) {
	t.Helper()
	for k, m := range before.Machines {
		next := (k + 1) % len(before.Machines)
		had, has := before.Machines[next].In, after.Machines[next].In
		if len(has) < len(had) || !slices.Equal(has[:len(had)], had) || !slices.Equal(slices.Concat(has[len(had):], after.Machines[k].Out), m.Out) {
			t.Fatalf("%v comes to %v: machine %d", before, after, k)
		}
	}
}

// TestI1SpoiltWorlds: what Check does not take no call does, and the first wrong machine tells.
func TestI1SpoiltWorlds(t *testing.T) {
	wrong := map[api.Errno]int{}
	worlds(t, 22, 60, func(rnd *rand.Rand, p api.Program, w api.World) {
		want := api.OK
		for k, m := range w.Machines {
			w.Machines[k] = spoilt(rnd, m)
			if want == api.OK {
				want = machine.Check(p, w.Machines[k])
			}
		}
		wrong[want]++
		if e := world.Check(p, w); e != want {
			t.Fatalf("%v: Check %v: %d, want %d", p, w, e, want)
		}
		for _, c := range worldCalls {
			if next, n, e := c.do(p, w); want != api.OK && (e != want || n != 0 || fmt.Sprint(next) != fmt.Sprint(api.World{})) {
				t.Fatalf("%v: %s %v: %v %d %d, want %d", p, c.name, w, next, n, e, want)
			}
		}
	})
	if len(wrong) < 6 {
		t.Errorf("%v", wrong)
	}
}

// partsOfWorld: all its lists.
func partsOfWorld(w api.World) []part {
	l := []part{partOf(w.Machines, func(n int) api.Machine { return api.Machine{Trap: n} })}
	for _, m := range w.Machines {
		l = append(l, partsOf(m)...)
	}
	return l
}

func worldWithRoom(w api.World) api.World {
	w.Machines = roomy(w.Machines, func(n int) api.Machine { return api.Machine{Trap: n} })
	for k, m := range w.Machines {
		w.Machines[k] = withRoom(m)
	}
	return w
}

func TestP2OfWorlds(t *testing.T) {
	worlds(t, 23, 40, func(_ *rand.Rand, p api.Program, w api.World) {
		p, w = programWithRoom(p), worldWithRoom(w)
		handed := append(partsOfWorld(w), partsOfProgram(p)...)
		was := show(handed)
		for _, c := range worldCalls {
			got, _, _ := c.do(p, w)
			wantOwn(t, partsOfWorld(got), handed, was, p, c.name, w)
		}
	})
}

// TestP3OfWorlds asks once more, with other things asked in between.
func TestP3OfWorlds(t *testing.T) {
	var again []func()
	worlds(t, 24, 20, func(_ *rand.Rand, p api.Program, w api.World) {
		for _, c := range worldCalls {
			first := fmt.Sprint(c.do(p, w))
			again = append(again, func() {
				if got := fmt.Sprint(c.do(p, w)); got != first {
					t.Fatalf("%v: %s %v: %s, and %s at first", p, c.name, w, got, first)
				}
			})
		}
	})
	for _, ask := range slices.Backward(again) {
		ask()
	}
}
