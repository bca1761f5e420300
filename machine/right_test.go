package machine_test

import (
	"fmt"
	"math/rand"
	"slices"
	"testing"

	"mizzen/api"
	"mizzen/fresh"
	"mizzen/machine"
	"mizzen/verify"
)

// writer of a function's code: sentences, each of which begins and ends with nothing on the stack, so that it may go on at the beginning of any of them.
type writer struct {
	*rand.Rand
	p      api.Program
	f      int
	code   []api.Op
	begins []int
}

func (w *writer) say(l ...int) {
	for c := range slices.Chunk(l, 2) {
		w.code = append(w.code, api.Op{Code: c[0], A: c[1]})
	}
}

// local of a type: the number of one of them.
func (w *writer) local(of int) int {
	locals := w.p.Funcs[w.f].Locals
	for {
		if k := w.Intn(len(locals)); locals[k] == of {
			return k
		}
	}
}

func (w *writer) loadOf(of int)  { w.say(api.OpLoad, w.local(of)) }
func (w *writer) storeOf(of int) { w.say(api.OpStore, w.local(of)) }

// sentence of whichever sort.
func (w *writer) sentence() {
	switch w.Intn(18) {
	case 0:
		w.say(api.OpPush, []int{0, 1, 2, -1, 2147483647, -2147483648}[w.Intn(6)])
		w.storeOf(i)
	case 1, 2:
		w.loadOf(i)
		w.loadOf(i)
		w.say([]int{api.OpAdd, api.OpSub, api.OpMul}[w.Intn(3)], 0)
		w.storeOf(i)
	case 3, 4:
		w.say(api.OpPush, w.Intn(12), api.OpNew, 0)
		w.storeOf(r)
	case 5:
		w.loadOf(r)
		w.say(api.OpPush, w.Intn(3), api.OpGet, 0)
		w.storeOf(i)
	case 6:
		w.loadOf(r)
		w.say(api.OpPush, w.Intn(3))
		w.loadOf(i)
		w.say(api.OpSet, 0)
	case 7:
		w.loadOf(r)
		w.say([]int{api.OpLen, api.OpIsNull}[w.Intn(2)], 0)
		w.storeOf(i)
	case 8:
		w.loadOf(i)
		w.say(api.OpZero, -1)
	case 9:
		w.loadOf(r)
		w.say(api.OpIsNull, 0, api.OpZero, -1)
	case 10:
		w.loadOf(i)
		w.say(api.OpDup, 0, api.OpSend, 0, api.OpSend, 0)
	case 11:
		w.say(api.OpRecv, 0)
		w.storeOf(i)
	case 12:
		w.loadOf(i)
		w.loadOf(r)
		w.say(api.OpSwap, 0)
		w.storeOf(i)
		w.storeOf(r)
	case 13:
		w.meet()
	case 14:
		w.say(api.OpJump, -1)
	default:
		w.callOf(w.Intn(len(w.p.Funcs)))
	}
}

// meet: two ways come together, one with nothing and one with a block.
func (w *writer) meet() {
	w.say(api.OpNull, 0)
	w.loadOf(i)
	w.say(api.OpZero, len(w.code)+3, api.OpPop, 0)
	w.loadOf(r)
	w.say(api.OpDup, 0, api.OpPop, 0)
	w.storeOf(r)
}

// callOf a function, maybe with something below that stays on the stack meanwhile.
func (w *writer) callOf(f int) {
	g := w.p.Funcs[f]
	below := w.Intn(2) == 0
	if below {
		w.say([]int{api.OpNull, api.OpRecv}[w.Intn(2)], 0)
	}
	for _, t := range g.Locals[:g.Params] {
		w.loadOf(t)
	}
	w.say(api.OpCall, f)
	if g.Result != api.TypeNone {
		w.storeOf(g.Result)
	}
	if below {
		w.say(api.OpPop, 0)
	}
}

// write the code of function f.
func (w *writer) write(f int) {
	w.f, w.code, w.begins = f, nil, nil
	for k, of := range w.p.Funcs[f].Locals {
		if of == r && k >= w.p.Funcs[f].Params && w.Intn(4) > 0 {
			w.say(api.OpPush, 2, api.OpNew, 0, api.OpStore, k)
		}
	}
	for len(w.code) < 28 && (len(w.begins) == 0 || w.Intn(8) > 0) {
		w.begins = append(w.begins, len(w.code))
		w.sentence()
	}
	w.begins = append(w.begins, len(w.code))
	if result := w.p.Funcs[f].Result; result != api.TypeNone {
		w.loadOf(result)
	}
	w.say(api.OpRet, 0)
	for k, o := range w.code {
		if (o.Code == api.OpZero || o.Code == api.OpJump) && o.A < 0 {
			w.code[k].A = w.begins[w.Intn(len(w.begins))]
		}
	}
	w.p.Funcs[f].Code = w.code
}

// someProgram that fits.
func someProgram(t *testing.T, rnd *rand.Rand) api.Program {
	w := writer{Rand: rnd, p: program(make([]api.Func, 1+rnd.Intn(3))...)}
	for f := range w.p.Funcs {
		w.p.Funcs[f].Locals = []int{i, r, r, i}[:2+rnd.Intn(3)]
		if f > 0 {
			w.p.Funcs[f].Params, w.p.Funcs[f].Result = rnd.Intn(len(w.p.Funcs[f].Locals)+1), rnd.Intn(3)
		}
	}
	for f := range w.p.Funcs {
		w.write(f)
	}
	if e := verify.Program(w.p); e != api.OK {
		t.Fatalf("%v does not fit: %d", w.p, e)
	}
	return w.p
}

// feed a machine that waits.
func feed(rnd *rand.Rand, m api.Machine) api.Machine {
	if m.Status == api.Waiting {
		m.In, m.Status = []int{rnd.Intn(3), int(int32(rnd.Uint32()))}, api.Running
	}
	return m
}

// TestF4 runs programs that fit, each step of which is to be right; and each op, each trap and each status must have come.
func TestF4(t *testing.T) {
	rnd := rand.New(rand.NewSource(1))
	var ops [22]int
	var traps [6]int
	var statuses [4]int
	for range 250 {
		p := someProgram(t, rnd)
		m := start(t, p)
		for range 60 {
			inmost := m.Frames[len(m.Frames)-1]
			ops[p.Funcs[inmost.Func].Code[inmost.Pc].Code]++
			m = step(t, p, m)
			statuses[m.Status]++
			if m.Status == api.Done || m.Status == api.Trapped {
				traps[m.Trap]++
				break
			}
			m = feed(rnd, m)
		}
	}
	for code, many := range ops[1:] {
		if many == 0 {
			t.Errorf("no op %d", code+1)
		}
	}
	if slices.Contains(traps[1:], 0) || slices.Contains(statuses[:], 0) {
		t.Errorf("traps %v, statuses %v", traps, statuses)
	}
}

// spoilt: a machine with something other in it, far from right or not.
func spoilt(rnd *rand.Rand, m api.Machine) api.Machine {
	m = fresh.Machine(m)
	number := func() int { return int(rnd.Uint64()) >> (rnd.Intn(2) * rnd.Intn(64)) }
	if rnd.Intn(3) > 0 {
		number = func() int { return rnd.Intn(9) - 1 }
	}
	change := func(l []api.Value) {
		if len(l) > 0 {
			l[rnd.Intn(len(l))] = api.Value{Ref: rnd.Intn(2) == 0, N: number()}
		}
	}
	switch rnd.Intn(10) {
	case 0:
		m.Status = number()
	case 1:
		m.Status, m.Trap = api.Trapped, number()
	case 2:
		m.Blocks = append(m.Blocks, []int{number()})
	case 3:
		m.In = append(m.In, number())
	case 4:
		m.Out = append(m.Out, make([]int, rnd.Intn(12))...)
	}
	if len(m.Frames) == 0 {
		return m
	}
	f := &m.Frames[rnd.Intn(len(m.Frames))]
	switch rnd.Intn(8) {
	case 0:
		f.Func = number()
	case 1:
		f.Pc = number()
	case 2, 3, 4:
		change(f.Locals)
	case 5, 6:
		change(f.Stack)
	case 7:
		m.Frames = m.Frames[:rnd.Intn(len(m.Frames)+1)]
	}
	return m
}

// TestF4SpoiltMachines: whatever Check takes, come to or not, steps to what Check takes; and whatever it does not take, Step does not either. Nothing panics.
func TestF4SpoiltMachines(t *testing.T) {
	rnd := rand.New(rand.NewSource(2))
	right, wrong := 0, map[api.Errno]int{}
	for range 120 {
		p := someProgram(t, rnd)
		m := start(t, p)
		for range 40 {
			x := spoilt(rnd, m)
			e := machine.Check(p, x)
			if e == api.OK {
				right++
				step(t, p, x)
			} else {
				wrong[e]++
				if next, f := machine.Step(p, x); f != e || fmt.Sprint(next) != fmt.Sprint(api.Machine{}) {
					t.Fatalf("%v: Step %v: %v %d, want %d", p, x, next, f, e)
				}
			}
			m = feed(rnd, step(t, p, m))
		}
	}
	if right < 500 || len(wrong) != 6 || slices.ContainsFunc([]api.Errno{api.ErrForm, api.ErrMany, api.ErrRange, api.ErrState, api.ErrNone, api.ErrKind}, func(e api.Errno) bool { return wrong[e] < 10 }) {
		t.Errorf("%d are right, wrong ones %v", right, wrong)
	}
}
