package machine_test

import (
	"fmt"
	"slices"
	"strconv"
	"strings"
	"testing"

	"mizzen/api"
	"mizzen/machine"
	"mizzen/verify"
)

// Types, in short.
const (
	i = api.TypeInt
	r = api.TypeRef
)

// fn: a function; its code is told by codes and As in turn.
func fn(params int, locals []int, result int, l ...int) api.Func {
	f := api.Func{Params: params, Locals: locals, Result: result}
	for c := range slices.Chunk(l, 2) {
		f.Code = append(f.Code, api.Op{Code: c[0], A: c[1]})
	}
	return f
}

func program(l ...api.Func) api.Program { return api.Program{Funcs: l} }

// values, told by words: r and a ref, or a number.
func values(s string) []api.Value {
	var l []api.Value
	for _, w := range strings.Fields(s) {
		number, isRef := strings.CutPrefix(w, "r")
		n, err := strconv.Atoi(number)
		if err != nil {
			panic(err)
		}
		l = append(l, api.Value{Ref: isRef, N: n})
	}
	return l
}

func start(t *testing.T, p api.Program) api.Machine {
	t.Helper()
	m, e := machine.Start(p)
	if e != api.OK {
		t.Fatalf("Start %v: %d", p, e)
	}
	return m
}

// step of a right machine; what comes of it is to be right, too.
func step(t *testing.T, p api.Program, m api.Machine) api.Machine {
	t.Helper()
	if e := machine.Check(p, m); e != api.OK {
		t.Fatalf("%v: Check %v: %d", p, m, e)
	}
	next, e := machine.Step(p, m)
	if e != api.OK {
		t.Fatalf("%v: Step %v: %d", p, m, e)
	}
	if e := machine.Check(p, next); e != api.OK {
		t.Fatalf("%v: Step %v: %v, of which Check says %d", p, m, next, e)
	}
	return next
}

func wantStep(t *testing.T, p api.Program, m, want api.Machine) {
	t.Helper()
	if got := step(t, p, m); fmt.Sprint(got) != fmt.Sprint(want) {
		t.Errorf("%v: Step %v: %v, want %v", p, m, got, want)
	}
}

// trapped: the machine, and nothing else other.
func trapped(m api.Machine, why int) api.Machine {
	m.Status, m.Trap = api.Trapped, why
	return m
}

// run until it does not go on, or has done so many steps.
func run(t *testing.T, p api.Program, in []int, steps int) api.Machine {
	t.Helper()
	m := start(t, p)
	m.In = in
	for range steps {
		if m = step(t, p, m); m.Status != api.Running {
			break
		}
	}
	return m
}

func TestF1Start(t *testing.T) {
	for _, c := range []struct {
		locals []int
		want   string
	}{
		{nil, "{[{0 0 [] []}] [] [] [] 0 0}"},
		{[]int{i}, "{[{0 0 [{false 0}] []}] [] [] [] 0 0}"},
		{[]int{r}, "{[{0 0 [{true 0}] []}] [] [] [] 0 0}"},
		{[]int{r, i, i, r, i, r}, "{[{0 0 [{true 0} {false 0} {false 0} {true 0} {false 0} {true 0}] []}] [] [] [] 0 0}"},
	} {
		p := program(fn(0, c.locals, 0, api.OpRet, 0), fn(1, []int{i, i, i}, 0, api.OpRet, 0))
		m := start(t, p)
		if fmt.Sprint(m) != c.want || machine.Check(p, m) != api.OK {
			t.Errorf("Start %v: %v, want %s", p, m, c.want)
		}
	}
}

// wrongPrograms: one of each kind of error that chapter 4 tells.
func wrongPrograms() []api.Program {
	good := fn(0, nil, 0, api.OpRet, 0)
	return []api.Program{
		{},
		program(slices.Repeat([]api.Func{good}, 6)...),
		program(good, fn(1, nil, 0, api.OpRet, 0)),
		program(good, fn(0, nil, 3, api.OpRet, 0)),
		program(good, fn(0, nil, 0)),
		program(good, fn(0, nil, 0, api.OpRet, 1)),
		program(fn(0, nil, i, api.OpPush, 1, api.OpRet, 0)),
		program(fn(0, nil, 0, api.OpPop, 0, api.OpRet, 0)),
		program(good, fn(0, nil, 0, api.OpPush, 1, api.OpRet, 0)),
	}
}

func TestF1ErrorsOfPrograms(t *testing.T) {
	zero := fmt.Sprint(api.Machine{})
	for _, p := range wrongPrograms() {
		want := verify.Program(p)
		if want == api.OK {
			t.Fatalf("%v fits", p)
		}
		if m, e := machine.Start(p); e != want || fmt.Sprint(m) != zero {
			t.Errorf("Start %v: %v %d, want %d", p, m, e, want)
		}
		for _, m := range []api.Machine{{}, {Status: 9}, {Status: api.Done}, {Frames: []api.Frame{{}}}, {Blocks: make([][]int, 9)}} {
			if e := machine.Check(p, m); e != want {
				t.Errorf("%v: Check %v: %d, want %d", p, m, e, want)
			}
			if got, e := machine.Step(p, m); e != want || fmt.Sprint(got) != zero {
				t.Errorf("%v: Step %v: %v %d, want %d", p, m, got, e, want)
			}
		}
	}
}

// before an op: a program that puts such a stack, does the op, and goes on for ever; and a machine of it that is at the op. Locals are a number and a block.
func before(o api.Op, stack string) (api.Program, api.Machine) {
	var l []int
	for _, v := range values(stack) {
		if v.Ref {
			l = append(l, api.OpLoad, 1)
		} else {
			l = append(l, api.OpPush, 0)
		}
	}
	at := len(l) / 2
	l = append(l, o.Code, o.A, api.OpJump, at+1)
	return program(fn(0, []int{i, r}, 0, l...)), api.Machine{
		Frames: []api.Frame{{Func: 0, Pc: at, Locals: values("8 r3"), Stack: values(stack)}},
		Blocks: [][]int{{4, 5, 6}, {}, {7}},
		In:     []int{11, 12},
		Out:    []int{21},
	}
}

// stackOps, which do nothing but take from the stack, and put there.
var stackOps = []struct {
	o           api.Op
	stack, then string
}{
	{api.Op{Code: api.OpPush, A: 5}, "", "5"},
	{api.Op{Code: api.OpPush, A: -2147483648}, "r1 2", "r1 2 -2147483648"},
	{api.Op{Code: api.OpPop}, "1 2", "1"},
	{api.Op{Code: api.OpPop}, "1 r2", "1"},
	{api.Op{Code: api.OpDup}, "1 2", "1 2 2"},
	{api.Op{Code: api.OpDup}, "1 r2", "1 r2 r2"},
	{api.Op{Code: api.OpSwap}, "9 1 2", "9 2 1"},
	{api.Op{Code: api.OpSwap}, "9 r1 2", "9 2 r1"},
	{api.Op{Code: api.OpAdd}, "9 3 4", "9 7"},
	{api.Op{Code: api.OpAdd}, "2147483647 1", "-2147483648"},
	{api.Op{Code: api.OpAdd}, "-2147483648 -2147483648", "0"},
	{api.Op{Code: api.OpSub}, "9 3 4", "9 -1"},
	{api.Op{Code: api.OpSub}, "-2147483648 1", "2147483647"},
	{api.Op{Code: api.OpSub}, "0 -2147483648", "-2147483648"},
	{api.Op{Code: api.OpMul}, "9 3 4", "9 12"},
	{api.Op{Code: api.OpMul}, "65536 65536", "0"},
	{api.Op{Code: api.OpMul}, "2147483647 2147483647", "1"},
	{api.Op{Code: api.OpMul}, "-2147483648 -1", "-2147483648"},
	{api.Op{Code: api.OpLoad, A: 0}, "1", "1 8"},
	{api.Op{Code: api.OpLoad, A: 1}, "1", "1 r3"},
	{api.Op{Code: api.OpGet}, "9 r1 0", "9 4"},
	{api.Op{Code: api.OpGet}, "r1 2", "6"},
	{api.Op{Code: api.OpGet}, "r3 0", "7"},
	{api.Op{Code: api.OpLen}, "9 r1", "9 3"},
	{api.Op{Code: api.OpLen}, "r2", "0"},
	{api.Op{Code: api.OpLen}, "r3", "1"},
	{api.Op{Code: api.OpNull}, "1", "1 r0"},
	{api.Op{Code: api.OpIsNull}, "9 r0", "9 1"},
	{api.Op{Code: api.OpIsNull}, "9 r2", "9 0"},
}

func TestF3StackOps(t *testing.T) {
	for _, c := range stackOps {
		p, m := before(c.o, c.stack)
		want := m
		want.Frames = []api.Frame{{Pc: m.Frames[0].Pc + 1, Locals: values("8 r3"), Stack: values(c.then)}}
		wantStep(t, p, m, want)
	}
}

// TestF3OtherOps: those that change something beside the stack.
func TestF3OtherOps(t *testing.T) {
	for _, c := range []struct {
		o           api.Op
		stack, then string
		also        func(m *api.Machine)
	}{
		{api.Op{Code: api.OpStore, A: 0}, "1 2", "1", func(m *api.Machine) { m.Frames[0].Locals = values("2 r3") }},
		{api.Op{Code: api.OpStore, A: 1}, "1 r2", "1", func(m *api.Machine) { m.Frames[0].Locals = values("8 r2") }},
		{api.Op{Code: api.OpStore, A: 1}, "r0", "", func(m *api.Machine) { m.Frames[0].Locals = values("8 r0") }},
		{api.Op{Code: api.OpNew}, "9 2", "9 r4", func(m *api.Machine) { m.Blocks = [][]int{{4, 5, 6}, {}, {7}, {0, 0}} }},
		{api.Op{Code: api.OpNew}, "0", "r4", func(m *api.Machine) { m.Blocks = [][]int{{4, 5, 6}, {}, {7}, {}} }},
		{api.Op{Code: api.OpNew}, "36", "r4", func(m *api.Machine) { m.Blocks = [][]int{{4, 5, 6}, {}, {7}, make([]int, 36)} }},
		{api.Op{Code: api.OpSet}, "9 r1 2 3", "9", func(m *api.Machine) { m.Blocks = [][]int{{4, 5, 3}, {}, {7}} }},
		{api.Op{Code: api.OpSet}, "r3 0 -2147483648", "", func(m *api.Machine) { m.Blocks = [][]int{{4, 5, 6}, {}, {-2147483648}} }},
		{api.Op{Code: api.OpSend}, "9 -3", "9", func(m *api.Machine) { m.Out = []int{21, -3} }},
		{api.Op{Code: api.OpRecv}, "9", "9 11", func(m *api.Machine) { m.In = []int{12} }},
		{api.Op{Code: api.OpJump, A: 0}, "", "", func(m *api.Machine) { m.Frames[0].Pc = 0 }},
		{api.Op{Code: api.OpJump, A: 1}, "", "", func(m *api.Machine) { m.Frames[0].Pc = 1 }},
		{api.Op{Code: api.OpZero, A: 0}, "0", "", func(m *api.Machine) { m.Frames[0].Pc = 0 }},
		{api.Op{Code: api.OpZero, A: 0}, "1", "", func(m *api.Machine) {}},
		{api.Op{Code: api.OpZero, A: 0}, "-2147483648", "", func(m *api.Machine) {}},
	} {
		p, m := before(c.o, c.stack)
		want := m
		want.Frames = []api.Frame{{Pc: m.Frames[0].Pc + 1, Locals: values("8 r3"), Stack: values(c.then)}}
		c.also(&want)
		wantStep(t, p, m, want)
	}
}

// traps of ops that use blocks.
var traps = []struct {
	code  int
	stack string
	why   int
}{
	{api.OpGet, "9 r0 0", api.TrapNone},
	{api.OpGet, "r0 -1", api.TrapNone},
	{api.OpGet, "9 r1 3", api.TrapIndex},
	{api.OpGet, "r1 -1", api.TrapIndex},
	{api.OpGet, "r2 0", api.TrapIndex},
	{api.OpGet, "r3 2147483647", api.TrapIndex},
	{api.OpSet, "9 r0 0 1", api.TrapNone},
	{api.OpSet, "r0 -1 1", api.TrapNone},
	{api.OpSet, "9 r1 3 1", api.TrapIndex},
	{api.OpSet, "r1 -1 1", api.TrapIndex},
	{api.OpSet, "r2 0 1", api.TrapIndex},
	{api.OpSet, "r3 -2147483648 1", api.TrapIndex},
	{api.OpLen, "9 r0", api.TrapNone},
	{api.OpNew, "9 -1", api.TrapSize},
	{api.OpNew, "-2147483648", api.TrapSize},
	{api.OpNew, "37", api.TrapSize},
	{api.OpNew, "2147483647", api.TrapSize},
}

func TestF3Traps(t *testing.T) {
	for _, c := range traps {
		p, m := before(api.Op{Code: c.code}, c.stack)
		wantStep(t, p, m, trapped(m, c.why))
	}
	p, m := before(api.Op{Code: api.OpNew}, "0")
	m.Blocks = make([][]int, 7)
	if got := step(t, p, m); got.Status != api.Running || len(got.Blocks) != 8 {
		t.Errorf("%v", got)
	}
	m.Blocks = make([][]int, 8)
	wantStep(t, p, m, trapped(m, api.TrapSize))
}

func TestF3TrapSend(t *testing.T) {
	p, m := before(api.Op{Code: api.OpSend}, "9 5")
	m.Out = make([]int, 9)
	if got := step(t, p, m); got.Status != api.Running || len(got.Out) != 10 || got.Out[9] != 5 {
		t.Errorf("%v", got)
	}
	m.Out = make([]int, 10)
	wantStep(t, p, m, trapped(m, api.TrapSend))
}

// TestF3Recv: one that waits goes on waiting, until something is sent.
func TestF3Recv(t *testing.T) {
	p, m := before(api.Op{Code: api.OpRecv}, "r1 9")
	m.In = nil
	want := m
	want.Status = api.Waiting
	wantStep(t, p, m, want)
	wantStep(t, p, want, want)
	m.In, want.In, want.Status = []int{-3}, nil, api.Running
	want.Frames = []api.Frame{{Pc: 3, Locals: values("8 r3"), Stack: values("r1 9 -3")}}
	wantStep(t, p, m, want)
	m.In = []int{1, 2, 3, 4, 5, 6, 7, 8, 9, 10}
	want.In = m.In[1:]
	want.Frames[0].Stack[2].N = 1
	wantStep(t, p, m, want)
}

// TestF3Ended: what is Done, or Trapped, stays as it is.
func TestF3Ended(t *testing.T) {
	p, m := before(api.Op{Code: api.OpSend}, "9 5")
	for why := api.TrapNone; why <= api.TrapSend; why++ {
		wantStep(t, p, trapped(m, why), trapped(m, why))
	}
	m.Frames, m.Status = nil, api.Done
	wantStep(t, p, m, m)
	wantStep(t, p, api.Machine{Status: api.Done}, api.Machine{Status: api.Done})
}

// calls: function 0 keeps something on its stack, calls 1 by a number and a block, and what that answers by 2; 1 has locals beside its params.
func calls() api.Program {
	return program(
		fn(0, []int{r}, 0, api.OpPush, 9, api.OpPush, 5, api.OpPush, 2, api.OpNew, 0, api.OpCall, 1, api.OpCall, 2, api.OpSend, 0, api.OpRet, 0),
		fn(2, []int{i, r, r, i}, r, api.OpLoad, 1, api.OpRet, 0),
		fn(1, []int{r}, 0, api.OpRet, 0),
	)
}

func TestF3CallAndRet(t *testing.T) {
	p, m := calls(), start(t, calls())
	for _, want := range []string{
		"{[{0 1 [{true 0}] [{false 9}]}] [] [] [] 0 0}",
		"{[{0 2 [{true 0}] [{false 9} {false 5}]}] [] [] [] 0 0}",
		"{[{0 3 [{true 0}] [{false 9} {false 5} {false 2}]}] [] [] [] 0 0}",
		"{[{0 4 [{true 0}] [{false 9} {false 5} {true 1}]}] [[0 0]] [] [] 0 0}",
		"{[{0 5 [{true 0}] [{false 9}]} {1 0 [{false 5} {true 1} {true 0} {false 0}] []}] [[0 0]] [] [] 0 0}",
		"{[{0 5 [{true 0}] [{false 9}]} {1 1 [{false 5} {true 1} {true 0} {false 0}] [{true 1}]}] [[0 0]] [] [] 0 0}",
		"{[{0 5 [{true 0}] [{false 9} {true 1}]}] [[0 0]] [] [] 0 0}",
		"{[{0 6 [{true 0}] [{false 9}]} {2 0 [{true 1}] []}] [[0 0]] [] [] 0 0}",
		"{[{0 6 [{true 0}] [{false 9}]}] [[0 0]] [] [] 0 0}",
		"{[{0 7 [{true 0}] []}] [[0 0]] [] [9] 0 0}",
		"{[] [[0 0]] [] [9] 2 0}",
		"{[] [[0 0]] [] [9] 2 0}",
	} {
		if m = step(t, p, m); fmt.Sprint(m) != want {
			t.Fatalf("it is %v and must be %s", m, want)
		}
	}
}

// TestF3Depth: six frames are the most; with six, a call traps, and a return does not.
func TestF3Depth(t *testing.T) {
	p := program(fn(0, []int{i}, 0, api.OpRecv, 0, api.OpZero, 3, api.OpCall, 0, api.OpRet, 0))
	m := run(t, p, []int{1, 1, 1, 1, 1, 0}, 100)
	if m.Status != api.Done || len(m.In) > 0 {
		t.Errorf("%v", m)
	}
	m = run(t, p, []int{1, 1, 1, 1, 1, 1, 0}, 100)
	if m.Status != api.Trapped || m.Trap != api.TrapDepth || len(m.Frames) != 6 || m.Frames[5].Pc != 2 || fmt.Sprint(m.In) != "[0]" {
		t.Errorf("%v", m)
	}
	m = run(t, p, []int{1, 1, 1, 1, 1}, 100)
	if m.Status != api.Waiting || len(m.Frames) != 6 {
		t.Errorf("%v", m)
	}
}

// TestF3Programs, from beginning to end.
func TestF3Programs(t *testing.T) {
	square := program(
		fn(0, nil, 0, api.OpRecv, 0, api.OpCall, 1, api.OpSend, 0, api.OpJump, 0),
		fn(1, []int{i}, i, api.OpLoad, 0, api.OpDup, 0, api.OpMul, 0, api.OpRet, 0),
	)
	none := program(fn(0, nil, 0, api.OpNull, 0, api.OpPush, 0, api.OpGet, 0, api.OpSend, 0, api.OpRet, 0))
	// The nth Fibonacci number, each by two calls.
	fibonacci := program(
		fn(0, nil, 0, api.OpRecv, 0, api.OpCall, 1, api.OpSend, 0, api.OpRet, 0),
		fn(1, []int{i}, i,
			api.OpLoad, 0, api.OpZero, 14, api.OpLoad, 0, api.OpPush, 1, api.OpSub, 0, api.OpZero, 14,
			api.OpLoad, 0, api.OpPush, 1, api.OpSub, 0, api.OpCall, 1,
			api.OpLoad, 0, api.OpPush, 2, api.OpSub, 0, api.OpJump, 16,
			api.OpLoad, 0, api.OpRet, 0,
			api.OpCall, 1, api.OpAdd, 0, api.OpRet, 0),
	)
	// As many numbers as the first one says lie in a block, and are sent in turn, the last one first.
	backward := program(fn(0, []int{r, i}, 0,
		api.OpRecv, 0, api.OpDup, 0, api.OpStore, 1, api.OpNew, 0, api.OpStore, 0,
		api.OpLoad, 1, api.OpZero, 16,
		api.OpLoad, 1, api.OpPush, 1, api.OpSub, 0, api.OpStore, 1, api.OpLoad, 0, api.OpLoad, 1, api.OpRecv, 0, api.OpSet, 0, api.OpJump, 5,
		api.OpLoad, 1, api.OpLoad, 0, api.OpLen, 0, api.OpSub, 0, api.OpZero, 30,
		api.OpLoad, 0, api.OpLoad, 1, api.OpGet, 0, api.OpSend, 0, api.OpLoad, 1, api.OpPush, 1, api.OpAdd, 0, api.OpStore, 1, api.OpJump, 16,
		api.OpRet, 0))
	for _, c := range []struct {
		p            api.Program
		in           []int
		status, trap int
		out          string
	}{
		{square, []int{3, -4, 65536, 46341}, api.Waiting, 0, "[9 16 0 -2147479015]"},
		{none, nil, api.Trapped, api.TrapNone, "[]"},
		{fibonacci, []int{0}, api.Done, 0, "[0]"},
		{fibonacci, []int{1}, api.Done, 0, "[1]"},
		{fibonacci, []int{5}, api.Done, 0, "[5]"},
		{fibonacci, []int{6}, api.Trapped, api.TrapDepth, "[]"},
		{backward, []int{3, 10, 20, 30}, api.Done, 0, "[30 20 10]"},
		{backward, []int{3, 10, 20}, api.Waiting, 0, "[]"},
		{backward, []int{0}, api.Done, 0, "[]"},
		{backward, []int{41}, api.Trapped, api.TrapSize, "[]"},
	} {
		m := run(t, c.p, c.in, 1000)
		if m.Status != c.status || m.Trap != c.trap || fmt.Sprint(m.Out) != c.out {
			t.Errorf("%v %v: %v, want %d %d %s", c.p, c.in, m, c.status, c.trap, c.out)
		}
	}
}
