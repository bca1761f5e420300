package meter_test

import (
	"fmt"
	"math"
	"slices"
	"testing"

	"mizzen/api"
	"mizzen/machine"
	"mizzen/meter"
)

// fn: a function; its code is told by codes and As in turn.
func fn(params int, locals []int, result int, l ...int) api.Func {
	f := api.Func{Params: params, Locals: locals, Result: result}
	for c := range slices.Chunk(l, 2) {
		f.Code = append(f.Code, api.Op{Code: c[0], A: c[1]})
	}
	return f
}

func program(l ...api.Func) api.Program { return api.Program{Funcs: l} }

func start(t *testing.T, p api.Program) api.Machine {
	t.Helper()
	m, e := machine.Start(p)
	if e != api.OK {
		t.Fatalf("Start %v: %d", p, e)
	}
	return m
}

func wantRun(t *testing.T, p api.Program, m api.Machine, fuel int, want api.Machine, left int) {
	t.Helper()
	got, rest, e := meter.Run(p, m, fuel)
	if fmt.Sprint(got) != fmt.Sprint(want) || rest != left || e != api.OK {
		t.Errorf("%v: Run %v %d: %v %d %d, want %v %d", p, m, fuel, got, rest, e, want, left)
	}
}

func wantError(t *testing.T, p api.Program, m api.Machine, fuel int, want api.Errno) {
	t.Helper()
	got, rest, e := meter.Run(p, m, fuel)
	if fmt.Sprint(got) != fmt.Sprint(api.Machine{}) || rest != 0 || e != want {
		t.Errorf("%v: Run %v %d: %v %d %d, want %d", p, m, fuel, got, rest, e, want)
	}
}

func TestG1Cost(t *testing.T) {
	naming := []int{api.OpPush, api.OpLoad, api.OpStore, api.OpJump, api.OpZero, api.OpCall}
	for code := api.OpPush; code <= api.OpRecv; code++ {
		want := 1
		switch code {
		case 12:
			want = 2
		case 14:
			want = 3
		}
		for _, a := range []int{0, 1, -1, api.MinInt, api.MaxInt, api.MinInt - 1, api.MaxInt + 1, math.MinInt, math.MaxInt} {
			cost, errno := want, api.OK
			switch {
			case a != 0 && !slices.Contains(naming, code):
				cost, errno = 0, api.ErrForm
			case a < api.MinInt || a > api.MaxInt:
				cost, errno = 0, api.ErrRange
			}
			if n, e := meter.Cost(api.Op{Code: code, A: a}); n != cost || e != errno {
				t.Errorf("Cost %d %d: %d %d, want %d %d", code, a, n, e, cost, errno)
			}
		}
	}
	for _, code := range []int{math.MinInt, -12, -1, 0, 22, 23, 256 + api.OpNew, math.MaxInt} {
		for _, a := range []int{0, 1, math.MaxInt} {
			if n, e := meter.Cost(api.Op{Code: code, A: a}); n != 0 || e != api.ErrKind {
				t.Errorf("Cost %d %d: %d %d", code, a, n, e)
			}
		}
	}
}

// dear: a program with ops of all costs: they are 1, 3, 2, 1 (in function 1), 1, 1, and 1 of the end.
func dear() api.Program {
	return program(
		fn(0, nil, 0, api.OpPush, 2, api.OpNew, 0, api.OpCall, 1, api.OpPush, 7, api.OpSend, 0, api.OpRet, 0),
		fn(1, []int{api.TypeRef}, 0, api.OpRet, 0),
	)
}

// TestG1WhatIsLeft: an op that costs more than is left is not done, and nothing is taken for it.
func TestG1WhatIsLeft(t *testing.T) {
	p, m := dear(), start(t, dear())
	costs := []int{1, 3, 2, 1, 1, 1, 1}
	for fuel := 0; fuel <= 14; fuel++ {
		want, left := m, fuel
		for _, cost := range costs {
			if cost > left {
				break
			}
			left -= cost
			want, _ = machine.Step(p, want)
		}
		wantRun(t, p, m, fuel, want, left)
	}
	for _, c := range []struct {
		fuel, pc, depth, left int
	}{{0, 0, 1, 0}, {1, 1, 1, 0}, {2, 1, 1, 1}, {3, 1, 1, 2}, {4, 2, 1, 0}, {5, 2, 1, 1}, {6, 0, 2, 0}, {7, 3, 1, 0}, {8, 4, 1, 0}, {9, 5, 1, 0}} {
		got, left, _ := meter.Run(p, m, c.fuel)
		if len(got.Frames) != c.depth || got.Frames[c.depth-1].Pc != c.pc || left != c.left {
			t.Errorf("Run %d: %v %d", c.fuel, got, left)
		}
	}
	wantRun(t, p, m, 10, api.Machine{Status: api.Done, Blocks: [][]int{{0, 0}}, Out: []int{7}}, 0)
	wantRun(t, p, m, api.MaxFuel, api.Machine{Status: api.Done, Blocks: [][]int{{0, 0}}, Out: []int{7}}, 9990)
}

// TestG1Waiting: what comes to wait has paid for that; what waits at first pays once, if it can, and stays as it is.
func TestG1Waiting(t *testing.T) {
	p := program(fn(0, nil, 0, api.OpRecv, 0, api.OpSend, 0, api.OpJump, 0))
	m := start(t, p)
	waiting := m
	waiting.Status = api.Waiting
	wantRun(t, p, m, 0, m, 0)
	wantRun(t, p, waiting, 0, waiting, 0)
	for _, fuel := range []int{1, 2, 50, 10000} {
		wantRun(t, p, m, fuel, waiting, fuel-1)
		wantRun(t, p, waiting, fuel, waiting, fuel-1)
	}
	m.In = []int{5, 6}
	sent := waiting
	sent.Out = []int{5, 6}
	wantRun(t, p, m, 7, sent, 0)
	wantRun(t, p, m, 30, sent, 23)
	sent.Status = api.Running
	wantRun(t, p, m, 6, sent, 0)
}

// TestG1Ended: what comes to an end has paid for that op; what is ended stays as it is, and all its fuel is left.
func TestG1Ended(t *testing.T) {
	none := program(fn(0, nil, 0, api.OpNull, 0, api.OpLen, 0, api.OpSend, 0, api.OpRet, 0))
	much := program(fn(0, nil, 0, api.OpPush, 41, api.OpNew, 0, api.OpPop, 0, api.OpRet, 0))
	deep := program(fn(0, nil, 0, api.OpCall, 0, api.OpRet, 0))
	over := program(fn(0, nil, 0, api.OpRet, 0))
	for _, c := range []struct {
		p                  api.Program
		cost, status, trap int
	}{
		{none, 2, api.Trapped, api.TrapNone},
		{much, 4, api.Trapped, api.TrapSize},
		{deep, 12, api.Trapped, api.TrapDepth},
		{over, 1, api.Done, 0},
	} {
		m := start(t, c.p)
		for fuel := range 20 {
			got, left, e := meter.Run(c.p, m, fuel)
			if fuel < c.cost {
				if got.Status != api.Running || e != api.OK {
					t.Errorf("%v: Run %d: %v %d %d", c.p, fuel, got, left, e)
				}
				continue
			}
			if got.Status != c.status || got.Trap != c.trap || left != fuel-c.cost || e != api.OK {
				t.Errorf("%v: Run %d: %v %d %d", c.p, fuel, got, left, e)
			}
			wantRun(t, c.p, got, 0, got, 0)
			wantRun(t, c.p, got, 1, got, 1)
			wantRun(t, c.p, got, api.MaxFuel, got, api.MaxFuel)
		}
	}
}

// TestG1Errors: what Check says of the machine comes ahead of fuel that is none.
func TestG1Errors(t *testing.T) {
	p, m := dear(), start(t, dear())
	for _, fuel := range []int{math.MinInt, -1, 10001, 1 << 32, math.MaxInt} {
		wantError(t, p, m, fuel, api.ErrRange)
		wantError(t, p, api.Machine{Status: api.Done}, fuel, api.ErrRange)
		wantError(t, p, api.Machine{}, fuel, api.ErrNone)
		wantError(t, api.Program{}, m, fuel, api.ErrNone)
		wantError(t, program(fn(0, nil, 0, api.OpPop, 0, api.OpRet, 0)), m, fuel, api.ErrState)
		wantError(t, p, api.Machine{Status: 4}, fuel, api.ErrKind)
	}
	for _, fuel := range []int{0, 1, 10000} {
		wantError(t, p, api.Machine{}, fuel, api.ErrNone)
		wantError(t, p, api.Machine{Status: 4}, fuel, api.ErrKind)
		wantError(t, p, api.Machine{Frames: m.Frames, Out: make([]int, 11)}, fuel, api.ErrMany)
		wantError(t, p, api.Machine{Status: api.Done, In: []int{1 << 31}}, fuel, api.ErrRange)
		wantError(t, program(fn(0, nil, 0, api.OpRet, 1)), m, fuel, api.ErrForm)
	}
}

// TestG2NoMachineRunsForEver: code without an end stops where there is no fuel for more.
func TestG2NoMachineRunsForEver(t *testing.T) {
	still := program(fn(0, nil, 0, api.OpJump, 0))
	for _, fuel := range []int{1, 2, 9999, 10000} {
		wantRun(t, still, start(t, still), fuel, start(t, still), 0)
	}
	round := program(fn(0, []int{api.TypeInt}, 0, api.OpCall, 1, api.OpLoad, 0, api.OpPush, 1, api.OpAdd, 0, api.OpStore, 0, api.OpJump, 0), fn(0, nil, 0, api.OpRet, 0))
	for fuel, want := range map[int]string{
		10000: "[{0 0 [{false 1250}] []}] 0",
		9999:  "[{0 5 [{false 1250}] []}] 0",
		9993:  "[{0 0 [{false 1249}] []}] 1",
		9994:  "[{0 1 [{false 1249}] []} {1 0 [] []}] 0",
	} {
		got, left, e := meter.Run(round, start(t, round), fuel)
		if fmt.Sprint(got.Frames, left) != want || e != api.OK {
			t.Errorf("Run %d: %v %d %d, want %s", fuel, got, left, e, want)
		}
	}
}
