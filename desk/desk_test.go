package desk_test

import (
	"fmt"
	"math"
	"slices"
	"strings"
	"testing"

	"mizzen/api"
	"mizzen/desk"
	"mizzen/machine"
	"mizzen/prog"
	"mizzen/world"
)

// fn: a function without params; its code is told by codes and As in turn.
func fn(locals []int, l ...int) api.Func {
	f := api.Func{Locals: locals}
	for c := range slices.Chunk(l, 2) {
		f.Code = append(f.Code, api.Op{Code: c[0], A: c[1]})
	}
	return f
}

func program(l ...api.Func) api.Program { return api.Program{Funcs: l} }

// echo: takes a number, sends it and 1, and begins anew.
func echo() api.Program {
	return program(fn(nil, api.OpRecv, 0, api.OpPush, 1, api.OpAdd, 0, api.OpSend, 0, api.OpJump, 0))
}

// keeper: takes a size, makes a block of it, which takes the last one's place, sends how many numbers it has, and begins anew.
func keeper() api.Program {
	return program(fn([]int{api.TypeRef}, api.OpRecv, 0, api.OpNew, 0, api.OpStore, 0, api.OpLoad, 0, api.OpLen, 0, api.OpSend, 0, api.OpJump, 0))
}

// misfit: a program that may be encoded, and does not fit.
func misfit() api.Program { return program(fn(nil, api.OpPop, 0, api.OpRet, 0)) }

func encoded(t *testing.T, p api.Program) string {
	t.Helper()
	s, e := prog.Encode(p)
	if e != api.OK {
		t.Fatalf("Encode %v: %d", p, e)
	}
	return s
}

// started: a world of so many machines.
func started(p api.Program, machines int) api.World {
	var w api.World
	for range machines {
		m, _ := machine.Start(p)
		w.Machines = append(w.Machines, m)
	}
	return w
}

func side(l ...api.Machine) api.World { return api.World{Machines: l} }

func turn(n int) api.Act      { return api.Act{Kind: api.ActTurn, N: n} }
func send(of, n int) api.Act  { return api.Act{Kind: api.ActSend, Of: of, N: n} }
func collects(of int) api.Act { return api.Act{Kind: api.ActCollect, Of: of} }
func restores(of int) api.Act { return api.Act{Kind: api.ActRestore, Of: of} }

func wantLoadError(t *testing.T, s string, machines int, want api.Errno) {
	t.Helper()
	p, w, e := desk.Load(s, machines)
	if fmt.Sprint(p, w) != fmt.Sprint(api.Program{}, api.World{}) || e != want {
		t.Errorf("Load %q %d: %v %v %d, want %d", s, machines, p, w, e, want)
	}
	for _, l := range [][]api.Act{nil, {turn(1)}, {{}}, make([]api.Act, 21)} {
		wantRunError(t, s, machines, l, want)
	}
}

func wantRunError(t *testing.T, s string, machines int, l []api.Act, want api.Errno) {
	t.Helper()
	if texts, done, e := desk.Run(s, machines, l); len(texts) != 0 || len(done) != 0 || e != want {
		t.Errorf("Run %q %d %v: %q %v %d, want %d", s, machines, l, texts, done, e, want)
	}
}

func wantDo(t *testing.T, p api.Program, w api.World, a api.Act, want api.World) {
	t.Helper()
	got, e := desk.Do(p, w, a)
	if fmt.Sprint(got) != fmt.Sprint(want) || e != api.OK {
		t.Errorf("Do %v %v: %v %d, want %v", w, a, got, e, want)
	}
	if e := world.Check(p, got); e != api.OK {
		t.Errorf("Do %v %v: %v, of which Check says %d", w, a, got, e)
	}
}

func wantDoError(t *testing.T, p api.Program, w api.World, a api.Act, want api.Errno) {
	t.Helper()
	if got, e := desk.Do(p, w, a); fmt.Sprint(got) != fmt.Sprint(api.World{}) || e != want {
		t.Errorf("%v: Do %v %v: %v %d, want %d", p, w, a, got, e, want)
	}
}

func wantRun(t *testing.T, p api.Program, machines int, l []api.Act, texts []string, done []api.Errno) {
	t.Helper()
	got, errnos, e := desk.Run(encoded(t, p), machines, l)
	if !slices.Equal(got, texts) || !slices.Equal(errnos, done) || e != api.OK {
		t.Errorf("Run %d %v: %q %v %d, want %q %v", machines, l, got, errnos, e, texts, done)
	}
}

func TestL1Load(t *testing.T) {
	for _, p := range []api.Program{echo(), keeper(), program(fn([]int{1, 2, 1}, api.OpRet, 0), fn(nil, api.OpCall, 0, api.OpRet, 0))} {
		for machines := 1; machines <= 4; machines++ {
			got, w, e := desk.Load(encoded(t, p), machines)
			if fmt.Sprint(got) != fmt.Sprint(p) || fmt.Sprint(w) != fmt.Sprint(started(p, machines)) || e != api.OK {
				t.Errorf("Load %v %d: %v %v %d", p, machines, got, w, e)
			}
		}
	}
}

// TestL1LoadErrors: those of Decode ahead of what does not fit, and this ahead of how many machines there are.
func TestL1LoadErrors(t *testing.T) {
	right := encoded(t, keeper())
	for _, machines := range []int{math.MinInt, -1, 0, 1, 4, 5, 1 << 32, math.MaxInt} {
		wantLoadError(t, "", machines, api.ErrForm)
		wantLoadError(t, right[1:], machines, api.ErrForm)
		wantLoadError(t, right[:len(right)-1], machines, api.ErrForm)
		wantLoadError(t, right+"\x00", machines, api.ErrForm)
		wantLoadError(t, strings.Repeat("\x00", 2001), machines, api.ErrMany)
		wantLoadError(t, "\x00", machines, api.ErrNone)
		wantLoadError(t, "\x01\x00\x01\x03\x00\x00\x01\x0d", machines, api.ErrKind)
		wantLoadError(t, "\x01\x00\x00\x00\x00\x05\x0a\x00\x00\x00\x01", machines, api.ErrRange)
		wantLoadError(t, "\x01\x00\x00\x01\x00\x01\x0d", machines, api.ErrState)
		wantLoadError(t, encoded(t, misfit()), machines, api.ErrState)
		wantLoadError(t, encoded(t, program(fn(nil, api.OpRet, 0), fn(nil, api.OpAdd, 0))), machines, api.ErrState)
	}
	for _, machines := range []int{math.MinInt, -1, 0, 5, 6, 1<<32 + 1, math.MaxInt} {
		wantLoadError(t, right, machines, api.ErrRange)
	}
}

// holder: a machine of keeper with two blocks that nobody has, and one that its local has.
func holder() api.Machine {
	return api.Machine{
		Frames: []api.Frame{{Locals: []api.Value{{Ref: true, N: 2}}}},
		Blocks: [][]int{{1}, {2, 3}, {4, 5, 6}},
		In:     []int{4},
		Out:    []int{1, 2, 3},
	}
}

// lean: holder, collected.
func lean() api.Machine {
	m := holder()
	m.Frames[0].Locals[0].N = 1
	m.Blocks = [][]int{{2, 3}}
	return m
}

func TestL1Turn(t *testing.T) {
	w := side(holder(), holder())
	for _, fuel := range []int{0, 1, 4, 5, 100, 10000} {
		want, e := world.Turn(keeper(), w, fuel)
		if e != api.OK {
			t.Fatalf("Turn %d: %d", fuel, e)
		}
		wantDo(t, keeper(), w, turn(fuel), want)
	}
	zero := started(echo(), 2)
	one := started(echo(), 2)
	one.Machines[0].Status, one.Machines[1].Status = api.Waiting, api.Waiting
	wantDo(t, echo(), zero, turn(0), zero)
	wantDo(t, echo(), zero, turn(1), one)
}

func TestL1Send(t *testing.T) {
	for of := range 3 {
		for _, n := range []int{0, 5, -5, api.MinInt, api.MaxInt} {
			want := side(holder(), holder(), holder())
			want.Machines[of].In = append(want.Machines[of].In, n)
			wantDo(t, keeper(), side(holder(), holder(), holder()), send(of, n), want)
		}
	}
	m := api.Machine{Frames: []api.Frame{{}}, Status: api.Waiting}
	woken := api.Machine{Frames: []api.Frame{{}}, In: []int{7}}
	wantDo(t, echo(), side(m, m), send(1, 7), side(m, woken))
}

func TestL1Collect(t *testing.T) {
	for of := range 4 {
		w := side(holder(), holder(), holder(), holder())
		want := side(holder(), holder(), holder(), holder())
		want.Machines[of] = lean()
		wantDo(t, keeper(), w, collects(of), want)
		wantDo(t, keeper(), want, collects(of), want)
	}
}

func TestL1Restore(t *testing.T) {
	waiting := lean()
	waiting.In, waiting.Status = nil, api.Waiting
	trapped := holder()
	trapped.Status, trapped.Trap = api.Trapped, api.TrapSize
	done := api.Machine{Status: api.Done, Blocks: [][]int{{1, 2}, {}}, Out: []int{-1}}
	w := side(holder(), waiting, trapped, done)
	for of := range 4 {
		wantDo(t, keeper(), w, restores(of), w)
	}
}

// TestL1Kinds that are none, whatever else an act says.
func TestL1Kinds(t *testing.T) {
	for _, kind := range []int{math.MinInt, -1, 0, 5, 6, 1<<32 + 1, math.MaxInt} {
		for _, of := range []int{0, 1, 2, -1} {
			for _, n := range []int{0, 1, -1, 10001} {
				wantDoError(t, echo(), started(echo(), 2), api.Act{Kind: kind, Of: of, N: n}, api.ErrKind)
			}
		}
	}
}

// TestL1DoErrors: ErrForm ahead of ErrRange, and what the calls say behind both.
func TestL1DoErrors(t *testing.T) {
	w := side(holder(), holder())
	for _, n := range []int{math.MinInt, -2, -1, 1, 2, 1 << 32, math.MaxInt} {
		for _, other := range []int{math.MinInt, -1, 0, 1, 2, 10001, math.MaxInt} {
			wantDoError(t, keeper(), w, api.Act{Kind: api.ActTurn, Of: n, N: other}, api.ErrForm)
			wantDoError(t, keeper(), w, api.Act{Kind: api.ActCollect, Of: other, N: n}, api.ErrForm)
			wantDoError(t, keeper(), w, api.Act{Kind: api.ActRestore, Of: other, N: n}, api.ErrForm)
		}
	}
	for _, of := range []int{math.MinInt, -1, 2, 3, 1 << 32, math.MaxInt} {
		wantDoError(t, keeper(), w, collects(of), api.ErrRange)
		wantDoError(t, keeper(), w, restores(of), api.ErrRange)
		for _, n := range []int{0, 1, 1 << 31} {
			wantDoError(t, keeper(), w, send(of, n), api.ErrRange)
		}
	}
	for _, n := range []int{math.MinInt, -1, 10001, math.MaxInt} {
		wantDoError(t, keeper(), w, turn(n), api.ErrRange)
	}
	full := side(holder(), holder())
	full.Machines[1].In = make([]int, 10)
	for _, n := range []int{math.MinInt, api.MinInt - 1, api.MaxInt + 1, math.MaxInt} {
		wantDoError(t, keeper(), full, send(0, n), api.ErrRange)
		wantDoError(t, keeper(), full, send(1, n), api.ErrRange)
	}
	wantDoError(t, keeper(), full, send(1, 0), api.ErrSpace)
}

// TestL1DoChecks the world ahead of the act, all machines of it, whichever one the act is of.
func TestL1DoChecks(t *testing.T) {
	acts := []api.Act{turn(1), turn(-1), send(0, 1), send(9, 1), collects(0), restores(0), collects(-1), restores(7), {}, {Kind: 9}, {Kind: 1, Of: 1}, {Kind: 3, N: 1}}
	for _, a := range acts {
		wantDoError(t, api.Program{}, side(holder()), a, api.ErrNone)
		wantDoError(t, misfit(), side(holder()), a, api.ErrState)
		wantDoError(t, program(fn(nil, 99, 0)), side(holder()), a, api.ErrKind)
		wantDoError(t, keeper(), side(), a, api.ErrNone)
		wantDoError(t, keeper(), started(keeper(), 5), a, api.ErrMany)
		wantDoError(t, keeper(), side(holder(), api.Machine{}), a, api.ErrNone)
		wantDoError(t, keeper(), side(holder(), api.Machine{Status: 4}), a, api.ErrKind)
		stray := holder()
		stray.Frames[0].Locals[0].N = 4
		wantDoError(t, keeper(), side(holder(), holder(), stray), a, api.ErrRange)
		wantDoError(t, keeper(), side(holder(), stray, api.Machine{}), a, api.ErrRange)
	}
}

func TestL2Run(t *testing.T) {
	begin := "status 0 trap 0 depth 1 cells 0 out"
	wait := "status 1 trap 0 depth 1 cells 0 out"
	for machines := 1; machines <= 4; machines++ {
		wantRun(t, echo(), machines, nil, slices.Repeat([]string{begin}, machines), nil)
		wantRun(t, echo(), machines, []api.Act{}, slices.Repeat([]string{begin}, machines), nil)
		wantRun(t, echo(), machines, []api.Act{turn(1)}, slices.Repeat([]string{wait}, machines), []api.Errno{api.OK})
	}
	sends := program(fn(nil, api.OpPush, -7, api.OpDup, 0, api.OpSend, 0, api.OpSend, 0, api.OpRecv, 0, api.OpPop, 0, api.OpRet, 0))
	wantRun(t, sends, 2, []api.Act{turn(3), turn(1)}, slices.Repeat([]string{"status 0 trap 0 depth 1 cells 0 out"}, 2), make([]api.Errno, 2))
	wantRun(t, sends, 1, []api.Act{send(0, 1), turn(100)}, []string{"status 2 trap 0 depth 0 cells 0 out"}, make([]api.Errno, 2))
	null := program(fn(nil, api.OpNull, 0, api.OpLen, 0, api.OpPop, 0, api.OpRet, 0))
	wantRun(t, null, 1, []api.Act{turn(100)}, []string{"status 3 trap 1 depth 1 cells 0 out"}, []api.Errno{api.OK})
	wantRun(t, keeper(), 2, []api.Act{send(0, 3), send(0, 5), turn(100)}, []string{"status 1 trap 0 depth 1 cells 8 out", begin}, make([]api.Errno, 3))
	flood := program(fn(nil, api.OpPush, -5, api.OpSend, 0, api.OpJump, 0))
	stuck := strings.Repeat(" -5", 10)
	wantRun(t, flood, 2, []api.Act{turn(30), turn(6)}, slices.Repeat([]string{begin + " -5 -5"}, 2), make([]api.Errno, 2))
	wantRun(t, flood, 2, []api.Act{turn(30), turn(30)}, slices.Repeat([]string{begin + stuck}, 2), make([]api.Errno, 2))
	wantRun(t, flood, 3, []api.Act{turn(30), turn(32)}, slices.Repeat([]string{"status 3 trap 5 depth 1 cells 0 out" + stuck}, 3), make([]api.Errno, 2))
	deep := program(fn(nil, api.OpCall, 0, api.OpRet, 0))
	wantRun(t, deep, 1, []api.Act{turn(6)}, []string{"status 0 trap 0 depth 4 cells 0 out"}, make([]api.Errno, 1))
	wantRun(t, deep, 1, []api.Act{turn(6), turn(6)}, []string{"status 3 trap 4 depth 6 cells 0 out"}, make([]api.Errno, 2))
}

// TestL2Errors of acts: those that have one change nothing, the others do what they do.
func TestL2Errors(t *testing.T) {
	l := []api.Act{{}, send(0, 3), turn(10001), send(2, 3), send(0, 1<<31), turn(100), {Kind: 5}, {Kind: 3, N: 1}, collects(3), turn(100), {Kind: 1, Of: 1}}
	done := []api.Errno{api.ErrKind, api.OK, api.ErrRange, api.ErrRange, api.ErrRange, api.OK, api.ErrKind, api.ErrForm, api.ErrRange, api.OK, api.ErrForm}
	wantRun(t, keeper(), 2, l, []string{"status 0 trap 0 depth 1 cells 3 out", "status 1 trap 0 depth 1 cells 3 out"}, done)
	full := append(slices.Repeat([]api.Act{send(1, 0)}, 11), send(0, 4))
	errnos := append(make([]api.Errno, 10), api.ErrSpace, api.OK)
	wantRun(t, echo(), 2, full, slices.Repeat([]string{"status 0 trap 0 depth 1 cells 0 out"}, 2), errnos)
}

func TestL2Many(t *testing.T) {
	s := encoded(t, echo())
	wantRun(t, echo(), 1, slices.Repeat([]api.Act{turn(1)}, 20), []string{"status 1 trap 0 depth 1 cells 0 out"}, make([]api.Errno, 20))
	wantRunError(t, s, 1, slices.Repeat([]api.Act{turn(1)}, 21), api.ErrMany)
	wantRunError(t, s, 4, make([]api.Act, 21), api.ErrMany)
	wantRunError(t, s, 1, make([]api.Act, 100000), api.ErrMany)
	wantRunError(t, s, 0, make([]api.Act, 21), api.ErrRange)
	wantRunError(t, s, 5, make([]api.Act, 21), api.ErrRange)
	wantRunError(t, "", 1, make([]api.Act, 21), api.ErrForm)
	wantRunError(t, encoded(t, misfit()), 1, make([]api.Act, 21), api.ErrState)
}

// TestL3: a script, with acts that collect and restore put between its own, tells the same of each machine but cells.
func TestL3(t *testing.T) {
	plain := []api.Act{send(0, 2), turn(9), send(1, 3), turn(5), turn(100)}
	want, _, _ := desk.Run(encoded(t, keeper()), 2, plain)
	for _, kind := range []int{api.ActCollect, api.ActRestore} {
		for at := range len(plain) + 1 {
			for of := range 2 {
				got, done, e := desk.Run(encoded(t, keeper()), 2, slices.Insert(slices.Clone(plain), at, api.Act{Kind: kind, Of: of}))
				if !slices.EqualFunc(got, want, func(a, b string) bool { return bare(a) == bare(b) }) || slices.Max(done) != api.OK || e != api.OK {
					t.Errorf("kind %d of %d at %d: %q %v %d, want %q", kind, of, at, got, done, e, want)
				}
				if kind == api.ActRestore && !slices.Equal(got, want) {
					t.Errorf("restored at %d: %q, want %q", at, got, want)
				}
			}
		}
	}
}

// bare: a report's text without its cells.
func bare(text string) string {
	ahead, behind, _ := strings.Cut(text, " cells ")
	_, out, _ := strings.Cut(behind, " ")
	return ahead + " " + out
}

// TestL3Room: a machine that would trap for want of room goes on, if it is collected ahead of that.
func TestL3Room(t *testing.T) {
	l := []api.Act{send(0, 20), turn(9), send(0, 15), turn(9), turn(9)}
	right := "status 0 trap 0 depth 1 cells 35 out"
	wantRun(t, keeper(), 2, l, []string{"status 3 trap 3 depth 1 cells 35 out", right}, make([]api.Errno, 5))
	wantRun(t, keeper(), 2, slices.Insert(slices.Clone(l), 4, restores(0)), []string{"status 3 trap 3 depth 1 cells 35 out", right}, make([]api.Errno, 6))
	wantRun(t, keeper(), 2, slices.Insert(slices.Clone(l), 4, collects(0)), []string{right, right}, make([]api.Errno, 6))
}

// TestP2 of Load: no two machines of it share memory, nor do they with the program.
func TestP2(t *testing.T) {
	p, w, _ := desk.Load(encoded(t, keeper()), 4)
	p.Funcs[0].Locals[0] = 9
	for of := range w.Machines {
		w.Machines[of].Frames[0].Locals[0].N = of
	}
	for of, m := range w.Machines {
		if m.Frames[0].Locals[0].N != of {
			t.Errorf("machine %d: %v", of, m)
		}
	}
}
