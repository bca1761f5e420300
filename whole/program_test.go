// Package whole: tests of what holds over several layers, with programs and machines of all sorts.
package whole

import (
	"math/rand"
	"slices"
	"testing"

	"mizzen/api"
	"mizzen/machine"
	"mizzen/verify"
)

// Types, in short.
const (
	i = api.TypeInt
	r = api.TypeRef
)

// writer of a function's code: sentences, each of which begins and ends with nothing on the stack, so that it may go on at the beginning of any of them.
type writer struct {
	*rand.Rand
	p      api.Program
	f      int
	code   []api.Op
	begins []int
}

func (w *writer) say(l ...int) {
	for c := range slices.Chunk(l, 2) {
		w.code = append(w.code, api.Op{Code: c[0], A: c[1]})
	}
}

// local of a type: the number of one of them.
func (w *writer) local(of int) int {
	locals := w.p.Funcs[w.f].Locals
	for {
		if k := w.Intn(len(locals)); locals[k] == of {
			return k
		}
	}
}

func (w *writer) loadOf(of int)  { w.say(api.OpLoad, w.local(of)) }
func (w *writer) storeOf(of int) { w.say(api.OpStore, w.local(of)) }

// sentence of whichever sort.
func (w *writer) sentence() {
	switch w.Intn(18) {
	case 0:
		w.say(api.OpPush, []int{0, 1, 2, -1, 2147483647, -2147483648}[w.Intn(6)])
		w.storeOf(i)
	case 1, 2:
		w.loadOf(i)
		w.loadOf(i)
		w.say([]int{api.OpAdd, api.OpSub, api.OpMul}[w.Intn(3)], 0)
		w.storeOf(i)
	case 3, 4:
		w.say(api.OpPush, w.Intn(12), api.OpNew, 0)
		w.storeOf(r)
	case 5:
		w.loadOf(r)
		w.say(api.OpPush, w.Intn(3), api.OpGet, 0)
		w.storeOf(i)
	case 6:
		w.loadOf(r)
		w.say(api.OpPush, w.Intn(3))
		w.loadOf(i)
		w.say(api.OpSet, 0)
	case 7:
		w.loadOf(r)
		w.say([]int{api.OpLen, api.OpIsNull}[w.Intn(2)], 0)
		w.storeOf(i)
	case 8:
		w.loadOf(i)
		w.say(api.OpZero, -1)
	case 9:
		w.loadOf(r)
		w.say(api.OpIsNull, 0, api.OpZero, -1)
	case 10:
		w.loadOf(i)
		w.say(api.OpDup, 0, api.OpSend, 0, api.OpSend, 0)
	case 11:
		w.say(api.OpRecv, 0)
		w.storeOf(i)
	case 12:
		w.loadOf(i)
		w.loadOf(r)
		w.say(api.OpSwap, 0)
		w.storeOf(i)
		w.storeOf(r)
	case 13:
		w.meet()
	case 14:
		w.say(api.OpJump, -1)
	default:
		w.callOf(w.Intn(len(w.p.Funcs)))
	}
}

// meet: two ways come together, one with nothing and one with a block.
func (w *writer) meet() {
	w.say(api.OpNull, 0)
	w.loadOf(i)
	w.say(api.OpZero, len(w.code)+3, api.OpPop, 0)
	w.loadOf(r)
	w.say(api.OpDup, 0, api.OpPop, 0)
	w.storeOf(r)
}

// callOf a function, maybe with something below that stays on the stack meanwhile.
func (w *writer) callOf(f int) {
	g := w.p.Funcs[f]
	below := w.Intn(2) == 0
	if below {
		w.say([]int{api.OpNull, api.OpRecv}[w.Intn(2)], 0)
	}
	for _, t := range g.Locals[:g.Params] {
		w.loadOf(t)
	}
	w.say(api.OpCall, f)
	if g.Result != api.TypeNone {
		w.storeOf(g.Result)
	}
	if below {
		w.say(api.OpPop, 0)
	}
}

// write the code of function f.
func (w *writer) write(f int) {
	w.f, w.code, w.begins = f, nil, nil
	for k, of := range w.p.Funcs[f].Locals {
		if of == r && k >= w.p.Funcs[f].Params && w.Intn(4) > 0 {
			w.say(api.OpPush, 2, api.OpNew, 0, api.OpStore, k)
		}
	}
	for len(w.code) < 28 && (len(w.begins) == 0 || w.Intn(8) > 0) {
		w.begins = append(w.begins, len(w.code))
		w.sentence()
	}
	w.begins = append(w.begins, len(w.code))
	if result := w.p.Funcs[f].Result; result != api.TypeNone {
		w.loadOf(result)
	}
	w.say(api.OpRet, 0)
	for k, o := range w.code {
		if (o.Code == api.OpZero || o.Code == api.OpJump) && o.A < 0 {
			w.code[k].A = w.begins[w.Intn(len(w.begins))]
		}
	}
	w.p.Funcs[f].Code = w.code
}

// someProgram that fits.
func someProgram(t *testing.T, rnd *rand.Rand) api.Program {
	w := writer{Rand: rnd, p: program(make([]api.Func, 1+rnd.Intn(3))...)}
	for f := range w.p.Funcs {
		w.p.Funcs[f].Locals = []int{i, r, r, i}[:2+rnd.Intn(3)]
		if f > 0 {
			w.p.Funcs[f].Params, w.p.Funcs[f].Result = rnd.Intn(len(w.p.Funcs[f].Locals)+1), rnd.Intn(3)
		}
	}
	for f := range w.p.Funcs {
		w.write(f)
	}
	if e := verify.Program(w.p); e != api.OK {
		t.Fatalf("%v does not fit: %d", w.p, e)
	}
	return w.p
}

func program(l ...api.Func) api.Program { return api.Program{Funcs: l} }

func start(t *testing.T, p api.Program) api.Machine {
	t.Helper()
	m, e := machine.Start(p)
	if e != api.OK {
		t.Fatalf("Start %v: %d", p, e)
	}
	return m
}

// step of a right machine; what comes of it is to be right, too.
func step(t *testing.T, p api.Program, m api.Machine) api.Machine {
	t.Helper()
	next, e := machine.Step(p, m)
	if e != api.OK {
		t.Fatalf("%v: Step %v: %d", p, m, e)
	}
	if e := machine.Check(p, next); e != api.OK {
		t.Fatalf("%v: Step %v: %v, of which Check says %d", p, m, next, e)
	}
	return next
}

// some numbers, to be sent.
func some(rnd *rand.Rand) []int {
	return []int{rnd.Intn(3), int(int32(rnd.Uint32()))}
}

// feed a machine, if it waits.
func feed(m api.Machine, l []int) api.Machine {
	if m.Status == api.Waiting {
		m.In, m.Status = slices.Clone(l), api.Running
	}
	return m
}

func ended(m api.Machine) bool {
	return m.Status == api.Done || m.Status == api.Trapped
}

// along the ways of so many programs that fit: each machine that comes up is tried.
func along(t *testing.T, seed int64, programs int, try func(rnd *rand.Rand, p api.Program, m api.Machine)) {
	t.Helper()
	rnd := rand.New(rand.NewSource(seed))
	for range programs {
		p := someProgram(t, rnd)
		m := start(t, p)
		try(rnd, p, m)
		for left := 60; left > 0 && !ended(m); left-- {
			m = step(t, p, feed(m, some(rnd)))
			try(rnd, p, m)
		}
	}
}
