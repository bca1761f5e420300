package collect_test

import (
	"fmt"
	"math"
	"slices"
	"testing"

	"mizzen/api"
	"mizzen/collect"
	"mizzen/machine"
)

// fn: a function; its code is told by codes and As in turn.
func fn(params int, locals []int, l ...int) api.Func {
	f := api.Func{Params: params, Locals: locals}
	for c := range slices.Chunk(l, 2) {
		f.Code = append(f.Code, api.Op{Code: c[0], A: c[1]})
	}
	return f
}

func number(n int) api.Value { return api.Value{N: n} }
func ref(n int) api.Value    { return api.Value{Ref: true, N: n} }

// deep: function 0 has a block and a number on its stack while it calls 1, which waits with a block on its own.
func deep() api.Program {
	const i, r = api.TypeInt, api.TypeRef
	return api.Program{Funcs: []api.Func{
		fn(0, []int{i, r, r}, api.OpLoad, 1, api.OpLoad, 0, api.OpLoad, 2, api.OpCall, 1, api.OpPop, 0, api.OpPop, 0, api.OpRet, 0),
		fn(1, []int{r, i, r}, api.OpLoad, 0, api.OpRecv, 0, api.OpPop, 0, api.OpPop, 0, api.OpRet, 0),
	}}
}

// holding: a machine of deep, with eight blocks: values that are numbers, and the refs that these values have: of function 0's locals, its stack, function 1's locals, its stack.
func holding(outerOne, outerTwo, below, innerOne, innerTwo, top int) api.Machine {
	return api.Machine{
		Frames: []api.Frame{
			{Func: 0, Pc: 4, Locals: []api.Value{number(1), ref(outerOne), ref(outerTwo)}, Stack: []api.Value{ref(below), number(2)}},
			{Func: 1, Pc: 1, Locals: []api.Value{ref(innerOne), number(3), ref(innerTwo)}, Stack: []api.Value{ref(top)}},
		},
		Blocks: [][]int{{1}, {2}, {}, {4, 4}, {5}, {6, 6, 6}, {2}, {8}},
		In:     []int{1, 2},
		Out:    []int{3, 4},
	}
}

func wantRoots(t *testing.T, m api.Machine, want ...int) {
	t.Helper()
	if got, e := collect.Roots(deep(), m); !slices.Equal(got, want) || e != api.OK {
		t.Errorf("Roots %v: %v %d, want %v", m, got, e, want)
	}
}

func wantCollect(t *testing.T, m, want api.Machine, gone int) {
	t.Helper()
	got, n, e := collect.Collect(deep(), m)
	if fmt.Sprint(got) != fmt.Sprint(want) || n != gone || e != api.OK {
		t.Errorf("Collect %v: %v %d %d, want %v %d", m, got, n, e, want, gone)
	}
	if e := machine.Check(deep(), got); e != api.OK {
		t.Errorf("Collect %v: %v, of which Check says %d", m, got, e)
	}
}

func wantErrors(t *testing.T, p api.Program, m api.Machine, want api.Errno) {
	t.Helper()
	if l, e := collect.Roots(p, m); len(l) > 0 || e != want {
		t.Errorf("%v: Roots %v: %v %d, want %d", p, m, l, e, want)
	}
	if got, n, e := collect.Collect(p, m); fmt.Sprint(got) != fmt.Sprint(api.Machine{}) || n != 0 || e != want {
		t.Errorf("%v: Collect %v: %v %d %d, want %d", p, m, got, n, e, want)
	}
}

// TestH1Roots: of locals and of stacks of all frames; none is no block, and a number is none either.
func TestH1Roots(t *testing.T) {
	wantRoots(t, holding(0, 0, 0, 0, 0, 0))
	for n := 1; n <= 8; n++ {
		wantRoots(t, holding(n, 0, 0, 0, 0, 0), n)
		wantRoots(t, holding(0, n, 0, 0, 0, 0), n)
		wantRoots(t, holding(0, 0, n, 0, 0, 0), n)
		wantRoots(t, holding(0, 0, 0, n, 0, 0), n)
		wantRoots(t, holding(0, 0, 0, 0, n, 0), n)
		wantRoots(t, holding(0, 0, 0, 0, 0, n), n)
		wantRoots(t, holding(n, n, n, n, n, n), n)
	}
	wantRoots(t, holding(8, 7, 6, 3, 2, 1), 1, 2, 3, 6, 7, 8)
	wantRoots(t, holding(5, 0, 2, 5, 2, 8), 2, 5, 8)
	wantRoots(t, api.Machine{Status: api.Done, Blocks: [][]int{{1}, {2}}})
	wantRoots(t, api.Machine{Status: api.Done})
}

func TestH1Collect(t *testing.T) {
	m := holding(0, 0, 0, 0, 0, 0)
	m.Blocks = nil
	wantCollect(t, holding(0, 0, 0, 0, 0, 0), m, 8)
	wantCollect(t, m, m, 0)

	m = holding(1, 2, 4, 2, 3, 1)
	m.Blocks = [][]int{{1}, {4, 4}, {5}, {8}}
	wantCollect(t, holding(1, 4, 8, 4, 5, 1), m, 4)

	m = holding(6, 5, 4, 3, 2, 1)
	m.Blocks = [][]int{{2}, {}, {4, 4}, {5}, {6, 6, 6}, {2}}
	wantCollect(t, holding(7, 6, 5, 4, 3, 2), m, 2)

	m = holding(0, 0, 0, 0, 0, 1)
	m.Blocks = [][]int{{8}}
	wantCollect(t, holding(0, 0, 0, 0, 0, 8), m, 7)
}

// TestH1AllBlocks: where nothing is to be gone, all is as it was.
func TestH1AllBlocks(t *testing.T) {
	m := holding(6, 5, 4, 3, 2, 1)
	m.Blocks = m.Blocks[:6]
	wantCollect(t, m, m, 0)
}

// TestH1Statuses: whatever the machine is, its status, its trap and its boxes stay.
func TestH1Statuses(t *testing.T) {
	m, want := holding(0, 3, 0, 0, 0, 3), holding(0, 1, 0, 0, 0, 1)
	want.Blocks = [][]int{{}}
	m.In, want.In = nil, nil
	for _, status := range []int{api.Running, api.Waiting} {
		m.Status, want.Status = status, status
		wantCollect(t, m, want, 7)
	}
	for trap := api.TrapNone; trap <= api.TrapSend; trap++ {
		m.Status, m.Trap, want.Status, want.Trap = api.Trapped, trap, api.Trapped, trap
		wantCollect(t, m, want, 7)
	}
	wantCollect(t, api.Machine{Status: api.Done, Blocks: [][]int{{1}, {}}, In: []int{1}, Out: []int{2}}, api.Machine{Status: api.Done, In: []int{1}, Out: []int{2}}, 2)
}

func TestH1Errors(t *testing.T) {
	right := holding(1, 2, 3, 4, 5, 6)
	wantErrors(t, api.Program{}, right, api.ErrNone)
	wantErrors(t, api.Program{Funcs: []api.Func{fn(0, nil, api.OpPop, 0, api.OpRet, 0)}}, right, api.ErrState)
	wantErrors(t, api.Program{Funcs: []api.Func{fn(0, nil, api.OpRet, 1)}}, right, api.ErrForm)
	wantErrors(t, deep(), api.Machine{}, api.ErrNone)
	wantErrors(t, deep(), api.Machine{Status: 4}, api.ErrKind)
	wantErrors(t, deep(), api.Machine{Frames: right.Frames, Blocks: make([][]int, 9)}, api.ErrMany)
	wantErrors(t, deep(), api.Machine{Frames: right.Frames, Blocks: right.Blocks[:5]}, api.ErrRange)
	for _, n := range []int{math.MinInt, -1, 9, math.MaxInt} {
		wantErrors(t, deep(), holding(n, 0, 0, 0, 0, 0), api.ErrRange)
		wantErrors(t, deep(), holding(0, 0, 0, 0, 0, n), api.ErrRange)
	}
	right.Status = api.Waiting
	wantErrors(t, deep(), right, api.ErrState)
}

// TestH2Room: a program that makes blocks for ever, and lets them go, traps, unless it is collected between.
func TestH2Room(t *testing.T) {
	p := api.Program{Funcs: []api.Func{fn(0, []int{api.TypeRef}, api.OpPush, 30, api.OpNew, 0, api.OpStore, 0, api.OpNull, 0, api.OpStore, 0, api.OpJump, 0)}}
	run := func(collects bool) api.Machine {
		m, _ := machine.Start(p)
		for range 60 {
			if m, _ = machine.Step(p, m); collects {
				m, _, _ = collect.Collect(p, m)
			}
		}
		return m
	}
	if m := run(false); m.Trap != api.TrapSize {
		t.Errorf("%v", m)
	}
	if m := run(true); m.Status != api.Running || len(m.Blocks) > 1 {
		t.Errorf("collected: %v", m)
	}
}
