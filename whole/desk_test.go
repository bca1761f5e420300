package whole

import (
	"fmt"
	"math/rand"
	"slices"
	"strings"
	"testing"

	"mizzen/api"
	"mizzen/collect"
	"mizzen/desk"
	"mizzen/prog"
	"mizzen/verify"
	"mizzen/world"
)

func encoded(t *testing.T, p api.Program) string {
	t.Helper()
	s, e := prog.Encode(p)
	if e != api.OK {
		t.Fatalf("Encode %v: %d", p, e)
	}
	return s
}

// someAct, one that may be done more often than not.
func someAct(rnd *rand.Rand, machines int) api.Act {
	a := api.Act{Kind: 1 + rnd.Intn(4), Of: rnd.Intn(machines)}
	switch a.Kind {
	case api.ActTurn:
		a.Of, a.N = 0, rnd.Intn(40)
	case api.ActSend:
		a.N = some(rnd)[rnd.Intn(2)]
	}
	switch rnd.Intn(12) {
	case 0:
		a.Kind = rnd.Intn(8) - 1
	case 1:
		a.Of = rnd.Intn(7) - 1
	case 2:
		a.N = []int{-1, 0, 1, 10000, 10001, -2147483648, -2147483649, 2147483647, 2147483648}[rnd.Intn(9)]
	}
	return a
}

// someScript: now and then one that sends more to a machine than there is room for.
func someScript(rnd *rand.Rand, machines int) []api.Act {
	l := make([]api.Act, rnd.Intn(api.MaxScript+1))
	flood := rnd.Intn(6) == 0
	for k := range l {
		l[k] = someAct(rnd, machines)
		if flood && rnd.Intn(5) > 0 {
			l[k] = api.Act{Kind: api.ActSend, N: k}
		}
	}
	return l
}

// wrongIn an act, as the document says it thing by thing, of a world that is right.
func wrongIn(w api.World, a api.Act) api.Errno {
	if a.Kind != 1 && a.Kind != 2 && a.Kind != 3 && a.Kind != 4 {
		return api.ErrKind
	}
	if a.Kind == 1 && a.Of != 0 || a.Kind > 2 && a.N != 0 {
		return api.ErrForm
	}
	if a.Of < 0 || a.Of >= len(w.Machines) {
		return api.ErrRange
	}
	if a.Kind == 1 && (a.N < 0 || a.N > 10000) || a.Kind == 2 && (a.N < -2147483648 || a.N > 2147483647) {
		return api.ErrRange
	}
	if a.Kind == 2 && len(w.Machines[a.Of].In) == 10 {
		return api.ErrSpace
	}
	return api.OK
}

// acted: what an act that is right is to do.
func acted(t *testing.T, p api.Program, w api.World, a api.Act) api.World {
	t.Helper()
	out := api.World{Machines: slices.Clone(w.Machines)}
	if a.Kind == api.ActTurn {
		for k, m := range out.Machines {
			out.Machines[k], _ = run(t, p, m, a.N)
		}
		out, _ = mailed(out)
		return out
	}
	m := &out.Machines[a.Of]
	switch a.Kind {
	case api.ActSend:
		m.In = append(slices.Clone(m.In), a.N)
		if m.Status == api.Waiting {
			m.Status = api.Running
		}
	case api.ActCollect:
		*m, _ = collected(t, p, *m)
	case api.ActRestore:
		*m = restored(t, p, saved(t, p, *m))
	}
	return out
}

// scripts, each of a program that fits, with how many machines it is for.
func scripts(t *testing.T, seed int64, programs int, try func(rnd *rand.Rand, p api.Program, machines int, l []api.Act)) {
	t.Helper()
	rnd := rand.New(rand.NewSource(seed))
	for range programs {
		p := someProgram(t, rnd)
		for range 3 {
			machines := 1 + rnd.Intn(api.MaxMachines)
			try(rnd, p, machines, someScript(rnd, machines))
		}
	}
}

// loaded: what Load answers of a program that fits; as it is to be.
func loaded(t *testing.T, p api.Program, machines int) api.World {
	t.Helper()
	got, w, e := desk.Load(encoded(t, p), machines)
	want := slices.Repeat([]api.Machine{start(t, p)}, machines)
	if fmt.Sprint(got) != fmt.Sprint(p) || fmt.Sprint(w.Machines) != fmt.Sprint(want) || e != api.OK {
		t.Fatalf("%v: Load %d: %v %v %d", p, machines, got, w, e)
	}
	return w
}

// TestL1L2L3: acts of a script, one by one, by Do, and all of them by Run; whatever a script does, each machine is right.
func TestL1L2L3(t *testing.T) {
	errnos, kinds := map[api.Errno]int{}, [5]int{}
	scripts(t, 50, 100, func(_ *rand.Rand, p api.Program, machines int, l []api.Act) {
		w := loaded(t, p, machines)
		var done []api.Errno
		for _, a := range l {
			want := wrongIn(w, a)
			next := api.World{}
			if want == api.OK {
				next = acted(t, p, w, a)
				kinds[a.Kind]++
			}
			got, e := desk.Do(p, w, a)
			if fmt.Sprint(got) != fmt.Sprint(next) || e != want {
				t.Fatalf("%v: Do %v %v: %v %d, want %v %d", p, w, a, got, e, next, want)
			}
			if e == api.OK {
				w = got
			}
			if e := world.Check(p, w); e != api.OK {
				t.Fatalf("%v: behind %v, %v: Check says %d", p, a, w, e)
			}
			done = append(done, want)
			errnos[want]++
		}
		var texts []string
		for _, m := range w.Machines {
			texts = append(texts, textOf(t, p, m))
		}
		got, all, e := desk.Run(encoded(t, p), machines, l)
		if !slices.Equal(got, texts) || !slices.Equal(all, done) || e != api.OK {
			t.Fatalf("%v: Run %d %v: %q %v %d, want %q %v", p, machines, l, got, all, e, texts, done)
		}
	})
	if len(errnos) != 5 || slices.Min(kinds[1:]) < 100 {
		t.Errorf("errors %v, kinds %v", errnos, kinds)
	}
}

// TestL3WhatIsSeen: an act that collects or restores changes nothing that is seen but cells, and of these only those of blocks that nobody has.
func TestL3WhatIsSeen(t *testing.T) {
	fewer := 0
	worlds(t, 51, 60, func(rnd *rand.Rand, p api.Program, w api.World) {
		for of, m := range w.Machines {
			lean, e := desk.Do(p, w, api.Act{Kind: api.ActCollect, Of: of})
			again, f := desk.Do(p, w, api.Act{Kind: api.ActRestore, Of: of})
			if e != api.OK || f != api.OK {
				t.Fatalf("%v: Do %v of %d: %d %d", p, w, of, e, f)
			}
			refs, _ := collect.Roots(p, m)
			cells := 0
			for _, ref := range refs {
				cells += len(m.Blocks[ref-1])
			}
			fewer += min(cellsOf(m)-cells, 1)
			for k, was := range w.Machines {
				text := textOf(t, p, was)
				if got := textOf(t, p, again.Machines[k]); got != text {
					t.Fatalf("%v: %v, %d restored: %q, was %q", p, w, of, got, text)
				}
				if k == of {
					text = strings.Replace(text, fmt.Sprint("cells ", cellsOf(m), " out"), fmt.Sprint("cells ", cells, " out"), 1)
				}
				if got := textOf(t, p, lean.Machines[k]); got != text {
					t.Fatalf("%v: %v, %d collected: %q, want %q", p, w, of, got, text)
				}
			}
		}
	})
	if fewer < 20 {
		t.Errorf("only %d times there were fewer cells", fewer)
	}
}

// bare: a report's text without its cells.
func bare(text string) string {
	ahead, behind, _ := strings.Cut(text, " cells ")
	_, out, _ := strings.Cut(behind, " ")
	return ahead + " " + out
}

// TestL3Scripts: with acts that collect and restore put in between, a script comes to the same, unless a machine has no room where they were not.
func TestL3Scripts(t *testing.T) {
	same, put := 0, 0
	scripts(t, 52, 100, func(rnd *rand.Rand, p api.Program, machines int, l []api.Act) {
		own := func(a api.Act) bool { return a.Kind != api.ActCollect && a.Kind != api.ActRestore }
		plain := slices.DeleteFunc(slices.Clone(l), func(a api.Act) bool { return !own(a) })
		want, _, e := desk.Run(encoded(t, p), machines, plain)
		got, _, f := desk.Run(encoded(t, p), machines, l)
		if e != api.OK || f != api.OK {
			t.Fatalf("%v: Run %d %v: %d %d", p, machines, l, e, f)
		}
		if slices.ContainsFunc(want, func(s string) bool { return strings.HasPrefix(s, "status 3 trap 3 ") }) {
			return
		}
		same++
		put += min(len(l)-len(plain), 1)
		if !slices.EqualFunc(got, want, func(a, b string) bool { return bare(a) == bare(b) }) {
			t.Fatalf("%v: Run %d %v: %q, and without acts that collect or restore %q", p, machines, l, got, want)
		}
	})
	if same < 100 || put < 80 {
		t.Errorf("%d came to the same, %d with something put in between", same, put)
	}
}

// TestL1SpoiltWorlds: what Check does not take no act is done of.
func TestL1SpoiltWorlds(t *testing.T) {
	wrong := map[api.Errno]int{}
	worlds(t, 53, 60, func(rnd *rand.Rand, p api.Program, w api.World) {
		k := rnd.Intn(len(w.Machines))
		w.Machines[k] = spoilt(rnd, w.Machines[k])
		want := world.Check(p, w)
		wrong[want]++
		for range 5 {
			got, e := desk.Do(p, w, someAct(rnd, len(w.Machines)))
			if want != api.OK && (e != want || fmt.Sprint(got) != fmt.Sprint(api.World{})) {
				t.Fatalf("%v: Do %v: %v %d, want %d", p, w, got, e, want)
			}
		}
	})
	if len(wrong) < 6 {
		t.Errorf("%v", wrong)
	}
}

// TestL1SpoiltBytes: bytes that tell no program that fits are not loaded, and say why; of all others each machine is right whatever is done.
func TestL1SpoiltBytes(t *testing.T) {
	errnos := map[api.Errno]int{}
	scripts(t, 54, 400, func(rnd *rand.Rand, p api.Program, machines int, l []api.Act) {
		b := []byte(encoded(t, p))
		for range 1 + rnd.Intn(2) {
			b[rnd.Intn(len(b))] = byte(rnd.Intn(256) >> (rnd.Intn(2) * 5))
		}
		machines += rnd.Intn(2) * rnd.Intn(2)
		p, want := prog.Decode(string(b))
		if want == api.OK {
			want = verify.Program(p)
		}
		if want == api.OK && machines > 4 {
			want = api.ErrRange
		}
		errnos[want]++
		got, w, e := desk.Load(string(b), machines)
		texts, done, f := desk.Run(string(b), machines, l)
		if e != want || f != want {
			t.Fatalf("Load %x %d: %d, Run: %d, want %d", b, machines, e, f, want)
		}
		if want != api.OK && (len(got.Funcs)+len(w.Machines)+len(texts)+len(done) > 0) {
			t.Fatalf("Load %x %d: %v %v %d, Run: %q %v", b, machines, got, w, e, texts, done)
		}
		if want == api.OK && (len(w.Machines) != machines || len(texts) != machines || slices.Contains(texts, "") || len(done) != len(l)) {
			t.Fatalf("Load %x %d: %v, Run %v: %q %v", b, machines, w, l, texts, done)
		}
	})
	if errnos[api.OK] < 80 || errnos[api.ErrForm] < 100 || errnos[api.ErrState] < 20 || errnos[api.ErrRange] < 100 {
		t.Errorf("%v", errnos)
	}
}

func TestP2OfActs(t *testing.T) {
	worlds(t, 55, 30, func(rnd *rand.Rand, p api.Program, w api.World) {
		p, w = programWithRoom(p), worldWithRoom(w)
		handed := append(partsOfWorld(w), partsOfProgram(p)...)
		was := show(handed)
		for kind := api.ActTurn; kind <= api.ActRestore; kind++ {
			for of := range w.Machines {
				a := api.Act{Kind: kind, Of: of}
				if kind == api.ActTurn {
					a.Of, a.N = 0, 20*of
				}
				got, _ := desk.Do(p, w, a)
				wantOwn(t, partsOfWorld(got), handed, was, p, "Do", w, a)
			}
		}
	})
}

func TestP2OfScripts(t *testing.T) {
	scripts(t, 56, 30, func(_ *rand.Rand, p api.Program, machines int, l []api.Act) {
		got, w, _ := desk.Load(encoded(t, p), machines)
		wantOwn(t, append(partsOfWorld(w), partsOfProgram(got)...), nil, "", p, "Load", machines)
		l = roomy(l, func(n int) api.Act { return api.Act{Kind: n} })
		was := fmt.Sprint(l[:cap(l)])
		desk.Run(encoded(t, p), machines, l)
		if now := fmt.Sprint(l[:cap(l)]); now != was {
			t.Fatalf("Run %d: what was handed in is %s, and was %s", machines, now, was)
		}
	})
}

// TestP3OfScripts asks once more, with other things asked in between.
func TestP3OfScripts(t *testing.T) {
	var again []func()
	scripts(t, 57, 20, func(_ *rand.Rand, p api.Program, machines int, l []api.Act) {
		s := encoded(t, p)
		first := fmt.Sprint(desk.Run(s, machines, l))
		begun := fmt.Sprint(desk.Load(s, machines))
		again = append(again, func() {
			if got := fmt.Sprint(desk.Run(s, machines, l)); got != first || fmt.Sprint(desk.Load(s, machines)) != begun {
				t.Fatalf("%v: Run %d %v: %s, and %s at first", p, machines, l, got, first)
			}
		})
	})
	for _, ask := range slices.Backward(again) {
		ask()
	}
}
