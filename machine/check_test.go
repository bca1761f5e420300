package machine_test

import (
	"fmt"
	"math"
	"testing"

	"mizzen/api"
	"mizzen/machine"
	"mizzen/verify"
)

// nested: function 0 calls 1, which calls 2. Behind the end of function 0, and of function 2, there is code that is never come to.
func nested() api.Program {
	return program(
		fn(0, []int{i, r}, 0, api.OpPush, 7, api.OpPush, 8, api.OpLoad, 1, api.OpCall, 1, api.OpAdd, 0, api.OpSend, 0, api.OpRet, 0, api.OpCall, 1, api.OpRet, 0),
		fn(2, []int{i, r, i}, i, api.OpNull, 0, api.OpCall, 2, api.OpPop, 0, api.OpPop, 0, api.OpLoad, 0, api.OpRet, 0),
		fn(0, []int{r}, r, api.OpRecv, 0, api.OpNew, 0, api.OpRet, 0, api.OpRecv, 0),
	)
}

// inner: a machine that is in function 2, behind the OpRecv.
func inner() api.Machine {
	return api.Machine{
		Frames: []api.Frame{
			{Func: 0, Pc: 4, Locals: values("5 r2"), Stack: values("7")},
			{Func: 1, Pc: 2, Locals: values("8 r2 0"), Stack: values("r0")},
			{Func: 2, Pc: 1, Locals: values("r1"), Stack: values("3")},
		},
		Blocks: [][]int{{1, 2}, {3}},
		In:     []int{4},
		Out:    []int{5, 6},
	}
}

// atRecv: the same one, ahead of the OpRecv.
func atRecv() api.Machine {
	m := inner()
	m.Frames[2].Pc, m.Frames[2].Stack, m.In = 0, nil, nil
	return m
}

// wantCheck: what Check says of a machine of a program; with an error Step says it, too.
func wantCheck(t *testing.T, p api.Program, m api.Machine, want api.Errno, told ...any) {
	t.Helper()
	if e := machine.Check(p, m); e != want {
		t.Errorf("%v: Check %v: %d, want %d (%v)", p, m, e, want, told)
	}
	next, e := machine.Step(p, m)
	if e != want || want != api.OK && fmt.Sprint(next) != fmt.Sprint(api.Machine{}) {
		t.Errorf("%v: Step %v: %v %d, want %d (%v)", p, m, next, e, want, told)
	}
}

// changed: a machine with a change.
func changed(m api.Machine, do func(m *api.Machine)) api.Machine {
	do(&m)
	return m
}

// far: numbers that are no number of anything.
var far = []int{math.MinInt, -1 << 32, -1, 1 << 32, math.MaxInt}

// strays: numbers that a machine may not have.
var strays = []int{math.MinInt, -4294967296, -2147483649, 2147483648, 4294967296, math.MaxInt}

func TestF1Right(t *testing.T) {
	p := nested()
	wantCheck(t, p, inner(), api.OK)
	wantCheck(t, p, atRecv(), api.OK)
	wantCheck(t, p, changed(atRecv(), func(m *api.Machine) { m.Status = api.Waiting }), api.OK)
	wantCheck(t, p, api.Machine{Status: api.Done}, api.OK)
	wantCheck(t, p, api.Machine{Status: api.Done, Blocks: [][]int{{1}}, In: []int{1}, Out: []int{2}}, api.OK)
	wantCheck(t, p, changed(inner(), func(m *api.Machine) { m.In, m.Out = make([]int, 10), make([]int, 10) }), api.OK)
	wantCheck(t, p, changed(inner(), func(m *api.Machine) { m.Blocks = make([][]int, 8) }), api.OK)
	for _, n := range []int{-2147483648, 2147483647} {
		wantCheck(t, p, changed(inner(), func(m *api.Machine) {
			m.In, m.Out, m.Blocks[0][0] = []int{n}, []int{n}, n
			m.Frames[0].Locals[0].N, m.Frames[2].Stack[0].N = n, n
		}), api.OK)
	}
}

func TestF1Status(t *testing.T) {
	p := nested()
	for _, status := range append([]int{4, 5, 256}, far...) {
		for trap := -1; trap <= 6; trap++ {
			wantCheck(t, p, changed(inner(), func(m *api.Machine) { m.Status, m.Trap = status, trap }), api.ErrKind)
		}
	}
	for _, trap := range append([]int{0, 1, 2, 3, 4, 5, 6, 7, 257}, far...) {
		right := func(ok bool) api.Errno {
			if ok {
				return api.OK
			}
			return api.ErrForm
		}
		wantCheck(t, p, changed(inner(), func(m *api.Machine) { m.Status, m.Trap = api.Trapped, trap }), right(trap >= 1 && trap <= 5))
		wantCheck(t, p, changed(inner(), func(m *api.Machine) { m.Trap = trap }), right(trap == 0))
		wantCheck(t, p, changed(atRecv(), func(m *api.Machine) { m.Status, m.Trap = api.Waiting, trap }), right(trap == 0))
		wantCheck(t, p, api.Machine{Status: api.Done, Trap: trap}, right(trap == 0))
	}
}

func TestF1Boxes(t *testing.T) {
	p := nested()
	wantCheck(t, p, changed(inner(), func(m *api.Machine) { m.In = make([]int, 11) }), api.ErrMany)
	wantCheck(t, p, changed(inner(), func(m *api.Machine) { m.Out = make([]int, 11) }), api.ErrMany)
	for _, n := range strays {
		wantCheck(t, p, changed(inner(), func(m *api.Machine) { m.In = []int{1, n} }), api.ErrRange)
		wantCheck(t, p, changed(inner(), func(m *api.Machine) { m.Out = []int{n, 1} }), api.ErrRange)
		wantCheck(t, p, changed(inner(), func(m *api.Machine) { m.In, m.Out = []int{n}, make([]int, 11) }), api.ErrMany)
		wantCheck(t, p, api.Machine{Status: api.Done, Out: []int{n}}, api.ErrRange)
	}
}

func TestF1Frames(t *testing.T) {
	p := nested()
	for _, status := range []int{api.Running, api.Waiting} {
		wantCheck(t, p, api.Machine{Status: status}, api.ErrNone)
	}
	wantCheck(t, p, api.Machine{Status: api.Trapped, Trap: api.TrapSend}, api.ErrNone)
	wantCheck(t, p, changed(inner(), func(m *api.Machine) { m.Status = api.Done }), api.ErrForm)
	for k := range 3 {
		for _, f := range append([]int{3, 4}, far...) {
			wantCheck(t, p, changed(inner(), func(m *api.Machine) { m.Frames[k].Func = f }), api.ErrRange)
		}
	}
	wantCheck(t, p, changed(inner(), func(m *api.Machine) { m.Frames[0].Func = 1 }), api.ErrState)
	wantCheck(t, p, changed(inner(), func(m *api.Machine) { m.Frames = m.Frames[1:] }), api.ErrState)
	deep := program(fn(0, nil, 0, api.OpCall, 0, api.OpRet, 0))
	for many := 1; many <= 8; many++ {
		m := api.Machine{Frames: make([]api.Frame, many)}
		for k := range many - 1 {
			m.Frames[k].Pc = 1
		}
		if many <= 6 {
			wantCheck(t, deep, m, api.OK)
		} else {
			wantCheck(t, deep, m, api.ErrMany)
		}
	}
}

func TestF1Waiting(t *testing.T) {
	p := nested()
	wait := func(m *api.Machine) { m.Status = api.Waiting }
	wantCheck(t, p, changed(inner(), wait), api.ErrState)
	wantCheck(t, p, changed(inner(), func(m *api.Machine) { m.Status, m.In = api.Waiting, nil }), api.ErrState)
	wantCheck(t, p, changed(atRecv(), func(m *api.Machine) { m.Status, m.In = api.Waiting, []int{0} }), api.ErrState)
	// That a frame ahead is at an OpRecv is not enough.
	ahead := program(
		fn(0, nil, 0, api.OpCall, 1, api.OpRecv, 0, api.OpPop, 0, api.OpRet, 0),
		fn(0, nil, 0, api.OpRet, 0),
	)
	m := api.Machine{Frames: []api.Frame{{Pc: 1}, {Func: 1}}}
	wantCheck(t, ahead, m, api.OK)
	wantCheck(t, ahead, changed(m, wait), api.ErrState)
}

func TestF2Locals(t *testing.T) {
	p := nested()
	for k := range 3 {
		locals := inner().Frames[k].Locals
		wantCheck(t, p, changed(inner(), func(m *api.Machine) { m.Frames[k].Locals = nil }), api.ErrForm)
		wantCheck(t, p, changed(inner(), func(m *api.Machine) { m.Frames[k].Locals = locals[1:] }), api.ErrForm)
		wantCheck(t, p, changed(inner(), func(m *api.Machine) { m.Frames[k].Locals = append(locals, api.Value{}) }), api.ErrForm)
		for at, v := range locals {
			put := func(v api.Value, want api.Errno) {
				t.Helper()
				wantCheck(t, p, changed(inner(), func(m *api.Machine) { m.Frames[k].Locals[at] = v }), want, k, at)
			}
			for ref := range 3 {
				want := api.ErrKind
				if v.Ref {
					want = api.OK
				}
				put(api.Value{Ref: true, N: ref}, want)
			}
			for _, n := range append([]int{3, 4}, far...) {
				put(api.Value{Ref: true, N: n}, api.ErrRange)
			}
			for _, n := range strays {
				put(api.Value{N: n}, api.ErrRange)
			}
			for _, n := range []int{0, 1, 3, -1} {
				want := api.OK
				if v.Ref {
					want = api.ErrKind
				}
				put(api.Value{N: n}, want)
			}
		}
	}
}

// TestF2Places: each place of each frame, right and wrong, with the stack that the entry there would have.
func TestF2Places(t *testing.T) {
	p := nested()
	for k := range 3 {
		for pc := -2; pc <= 10; pc++ {
			m := inner()
			was := m.Frames[k].Pc
			m.Frames[k].Pc = pc
			entries, _ := verify.Func(p, k)
			reached := false
			for _, e := range entries {
				reached = reached || e.Pc == pc
			}
			switch {
			case pc == was:
				wantCheck(t, p, m, api.OK)
			case k == 2 && reached:
				wantCheck(t, p, m, api.ErrState)
			default:
				wantCheck(t, p, m, api.ErrNone)
			}
		}
		for _, pc := range far {
			wantCheck(t, p, changed(inner(), func(m *api.Machine) { m.Frames[k].Pc = pc }), api.ErrNone)
		}
	}
}

// TestF2Calls: that an op ahead is a call is not enough, it must be of the next frame's function.
func TestF2Calls(t *testing.T) {
	p := program(
		fn(0, nil, 0, api.OpCall, 1, api.OpCall, 2, api.OpRet, 0),
		fn(0, nil, 0, api.OpRet, 0),
		fn(0, nil, 0, api.OpRet, 0),
	)
	for pc := range 3 {
		for f := range 3 {
			want := api.ErrNone
			if pc > 0 && pc == f {
				want = api.OK
			}
			wantCheck(t, p, api.Machine{Frames: []api.Frame{{Pc: pc}, {Func: f}}}, want)
		}
	}
	// An op that names the same A, and is no call.
	push := program(fn(0, nil, 0, api.OpPush, 1, api.OpPop, 0, api.OpRet, 0), fn(0, nil, 0, api.OpRet, 0))
	wantCheck(t, push, api.Machine{Frames: []api.Frame{{Pc: 1, Stack: values("1")}, {Func: 1}}}, api.ErrNone)
}

// TestF2Stacks: what is on each frame's stack is as many values as there must be, of their types.
func TestF2Stacks(t *testing.T) {
	p := nested()
	for k, want := range map[int]map[string]api.Errno{
		0: {"7": api.OK, "-1": api.OK, "": api.ErrState, "7 7": api.ErrState, "r1": api.ErrState, "r0": api.ErrState, "r3": api.ErrRange, "7 2147483648": api.ErrRange},
		1: {"r0": api.OK, "": api.ErrState, "r1": api.ErrState, "r2": api.ErrState, "0": api.ErrState, "r0 r0": api.ErrState, "r0 r1": api.ErrState, "r3": api.ErrRange, "r-1": api.ErrRange},
		2: {"3": api.OK, "0": api.OK, "": api.ErrState, "r1": api.ErrState, "3 3": api.ErrState, "r0 -2147483649": api.ErrRange},
	} {
		for stack, errno := range want {
			wantCheck(t, p, changed(inner(), func(m *api.Machine) { m.Frames[k].Stack = values(stack) }), errno, k, stack)
		}
	}
}

// meets: at place 4 of function 0 ways meet that leave nothing, and a block; one of them is a call.
func meets() api.Program {
	return program(
		fn(0, []int{i, r}, 0, api.OpNull, 0, api.OpLoad, 0, api.OpZero, 6, api.OpCall, 1, api.OpPop, 0, api.OpRet, 0, api.OpPop, 0, api.OpLoad, 1, api.OpJump, 4),
		fn(0, nil, 0, api.OpRet, 0),
	)
}

// TestF2EntryOfPc: it is the entry of where a frame goes on that tells what is on its stack, not that of the call.
func TestF2EntryOfPc(t *testing.T) {
	entries, _ := verify.Func(meets(), 0)
	if fmt.Sprint(entries) != "[{0 []} {1 [3]} {2 [3 1]} {3 [3]} {4 [2]} {5 []} {6 [3]} {7 []} {8 [2]}]" {
		t.Fatalf("entries %v", entries)
	}
	m := api.Machine{Frames: []api.Frame{{Pc: 4, Locals: values("0 r0")}, {Func: 1}}, Blocks: [][]int{{}}}
	for stack, want := range map[string]api.Errno{"r0": api.OK, "r1": api.OK, "1": api.ErrState, "": api.ErrState} {
		m.Frames[0].Stack = values(stack)
		wantCheck(t, meets(), m, want)
		alone := m
		alone.Frames = m.Frames[:1]
		wantCheck(t, meets(), alone, want)
		alone.Frames = []api.Frame{{Pc: 3, Locals: values("0 r0"), Stack: values(stack)}}
		if stack == "r1" {
			want = api.ErrState
		}
		wantCheck(t, meets(), alone, want)
	}
}

// fault: something that is wrong with a machine.
type fault struct {
	what  string
	errno api.Errno
	do    func(m *api.Machine)
}

// faults, in the order in which the document names them.
func faults() []fault {
	l := []fault{
		{"status", api.ErrKind, func(m *api.Machine) { m.Status = 4 }},
		{"trap", api.ErrForm, func(m *api.Machine) { m.Trap = 6 }},
		{"many blocks", api.ErrMany, func(m *api.Machine) { m.Blocks = append(m.Blocks, make([][]int, 9)...) }},
		{"a number of a block", api.ErrRange, func(m *api.Machine) { m.Blocks[1][0] = 1 << 31 }},
		{"much in Out", api.ErrMany, func(m *api.Machine) { m.Out = append(m.Out, make([]int, 11)...) }},
		{"a number in In", api.ErrRange, func(m *api.Machine) { m.In[0] = 1 << 31 }},
		{"many frames", api.ErrMany, func(m *api.Machine) { m.Frames = make([]api.Frame, 7) }},
		{"no frames", api.ErrNone, func(m *api.Machine) { m.Frames = nil }},
		{"no function", api.ErrRange, func(m *api.Machine) { m.Frames[2].Func = 3 }},
		{"outermost", api.ErrState, func(m *api.Machine) { m.Frames[0].Func = 1 }},
	}
	for k := range 3 {
		l = append(l,
			fault{"many locals", api.ErrForm, func(m *api.Machine) { m.Frames[k].Locals = append(m.Frames[k].Locals, api.Value{}) }},
			fault{"a value", api.ErrRange, func(m *api.Machine) { m.Frames[k].Stack[0].N = 1 << 31 }},
			fault{"a kind", api.ErrKind, func(m *api.Machine) { m.Frames[k].Locals[0].Ref = k < 2; m.Frames[k].Locals[0].N = 1 }},
			fault{"a place", api.ErrNone, func(m *api.Machine) { m.Frames[k].Pc = 9 }},
			fault{"a stack", api.ErrState, func(m *api.Machine) { m.Frames[k].Stack = append(m.Frames[k].Stack, api.Value{}) }},
		)
	}
	return append(l, fault{"waiting", api.ErrState, func(m *api.Machine) { m.Status = api.Waiting }})
}

// TestP1WhichErrorIsTold: of two faults, the one that is named first.
func TestP1WhichErrorIsTold(t *testing.T) {
	p, l := nested(), faults()
	for first := range l {
		wantCheck(t, p, changed(inner(), l[first].do), l[first].errno, l[first].what)
		for then := first + 1; then < len(l); then++ {
			m := inner()
			l[then].do(&m)
			l[first].do(&m)
			wantCheck(t, p, m, l[first].errno, l[first].what, l[then].what)
		}
	}
	done := func(m *api.Machine) { m.Status = api.Done }
	for _, f := range l[7:] {
		m := inner()
		f.do(&m)
		done(&m)
		if len(m.Frames) > 0 {
			wantCheck(t, p, m, api.ErrForm, "done", f.what)
		}
	}
	for _, f := range l[1:7] {
		m := inner()
		done(&m)
		f.do(&m)
		wantCheck(t, p, m, f.errno, "done", f.what)
	}
}

func TestP3TheSameAgain(t *testing.T) {
	say := func(p api.Program, m api.Machine) string {
		s, e := machine.Start(p)
		n, f := machine.Step(p, m)
		return fmt.Sprint(s, e, n, f, machine.Check(p, m))
	}
	p := nested()
	asked := []api.Machine{{}, inner(), atRecv(), trapped(inner(), api.TrapSend), trapped(inner(), 9), {Status: api.Done}}
	for _, f := range faults() {
		asked = append(asked, changed(inner(), f.do))
	}
	var first []string
	for _, m := range asked {
		first = append(first, say(p, m))
	}
	for k := len(asked) - 1; k >= 0; k-- {
		if got := say(p, asked[k]); got != first[k] {
			t.Errorf("%v: %s, and %s at first", asked[k], got, first[k])
		}
		say(calls(), asked[k])
	}
}
