package whole

import (
	"fmt"
	"math/rand"
	"slices"
	"testing"

	"mizzen/api"
	"mizzen/collect"
	"mizzen/fresh"
	"mizzen/image"
	"mizzen/machine"
	"mizzen/meter"
)

// calls that answer a machine, and maybe a number.
var calls = []struct {
	name string
	do   func(p api.Program, m api.Machine) (api.Machine, int, api.Errno)
}{
	{"Step", func(p api.Program, m api.Machine) (api.Machine, int, api.Errno) {
		next, e := machine.Step(p, m)
		return next, 0, e
	}},
	{"Run 0", func(p api.Program, m api.Machine) (api.Machine, int, api.Errno) { return meter.Run(p, m, 0) }},
	{"Run 1", func(p api.Program, m api.Machine) (api.Machine, int, api.Errno) { return meter.Run(p, m, 1) }},
	{"Run 20", func(p api.Program, m api.Machine) (api.Machine, int, api.Errno) { return meter.Run(p, m, 20) }},
	{"Collect", collect.Collect},
	{"Restore of Save", func(p api.Program, m api.Machine) (api.Machine, int, api.Errno) {
		s, e := image.Save(p, m)
		if e != api.OK {
			return api.Machine{}, len(s), e
		}
		next, e := image.Restore(p, s)
		return next, 0, e
	}},
}

// part: a list, its spare room too, that may be filled with one thing, told by a number.
type part struct {
	show func() string
	fill func(n int)
	full func(n int) bool
}

func partOf[T any](l []T, thing func(n int) T) part {
	room := l[:cap(l)]
	return part{
		func() string { return fmt.Sprint(room) },
		func(n int) {
			for k := range room {
				room[k] = thing(n)
			}
		},
		func(n int) bool {
			return !slices.ContainsFunc(room, func(x T) bool { return fmt.Sprint(x) != fmt.Sprint(thing(n)) })
		},
	}
}

func number(n int) int        { return n }
func value(n int) api.Value   { return api.Value{N: n} }
func frame(n int) api.Frame   { return api.Frame{Pc: n} }
func numbers(n int) []int     { return []int{n} }
func function(n int) api.Func { return api.Func{Params: n} }
func anOp(n int) api.Op       { return api.Op{A: n} }

// partsOf a machine: all its lists.
func partsOf(m api.Machine) []part {
	l := []part{partOf(m.In, number), partOf(m.Out, number), partOf(m.Frames, frame), partOf(m.Blocks, numbers)}
	for _, f := range m.Frames {
		l = append(l, partOf(f.Locals, value), partOf(f.Stack, value))
	}
	for _, b := range m.Blocks {
		l = append(l, partOf(b, number))
	}
	return l
}

// partsOfProgram: all its lists.
func partsOfProgram(p api.Program) []part {
	l := []part{partOf(p.Funcs, function)}
	for _, f := range p.Funcs {
		l = append(l, partOf(f.Locals, number), partOf(f.Code, anOp))
	}
	return l
}

func show(l []part) string {
	s := ""
	for _, p := range l {
		s += p.show() + " "
	}
	return s
}

// wantOwn: that no two of an answer's lists share memory, and that none of them shares any with what was handed in, which shows as it was.
func wantOwn(t *testing.T, answer, handed []part, was string, told ...any) {
	t.Helper()
	for k, p := range answer {
		p.fill(1000 + k)
	}
	for k, p := range answer {
		if !p.full(1000 + k) {
			t.Fatalf("%v: list %d of the answer shares memory with another one", told, k)
		}
	}
	if got := show(handed); got != was {
		t.Fatalf("%v: what was handed in is %s, and was %s", told, got, was)
	}
}

// roomy: the list, with spare room behind it.
func roomy[T any](l []T, thing func(n int) T) []T {
	out := append(slices.Clone(l), slices.Repeat([]T{thing(66)}, 8)...)
	return out[:len(l)]
}

// withRoom: a machine whose lists all have spare room.
func withRoom(m api.Machine) api.Machine {
	m = fresh.Machine(m)
	for k, f := range m.Frames {
		m.Frames[k].Locals, m.Frames[k].Stack = roomy(f.Locals, value), roomy(f.Stack, value)
	}
	for k, b := range m.Blocks {
		m.Blocks[k] = roomy(b, number)
	}
	m.Frames, m.Blocks = roomy(m.Frames, frame), roomy(m.Blocks, numbers)
	m.In, m.Out = roomy(m.In, number), roomy(m.Out, number)
	return m
}

// programWithRoom: a program whose lists all have spare room.
func programWithRoom(p api.Program) api.Program {
	p.Funcs = roomy(p.Funcs, function)
	for k, f := range p.Funcs {
		p.Funcs[k].Locals, p.Funcs[k].Code = roomy(f.Locals, number), roomy(f.Code, anOp)
	}
	return p
}

func TestP2(t *testing.T) {
	along(t, 3, 30, func(_ *rand.Rand, p api.Program, m api.Machine) {
		p, m = programWithRoom(p), withRoom(m)
		handed := append(partsOf(m), partsOfProgram(p)...)
		was := show(handed)
		for _, c := range calls {
			got, _, e := c.do(p, m)
			if e != api.OK {
				t.Fatalf("%v: %s %v: %d", p, c.name, m, e)
			}
			wantOwn(t, partsOf(got), handed, was, p, c.name, m)
		}
		wantOwn(t, partsOf(start(t, p)), handed, was, p, "Start")
		refs, _ := collect.Roots(p, m)
		wantOwn(t, []part{partOf(refs, number)}, handed, was, p, "Roots", m)
	})
}

// TestP3 asks once more, with other things asked in between.
func TestP3(t *testing.T) {
	type asked struct {
		p    api.Program
		m    api.Machine
		call int
		got  string
	}
	say := func(p api.Program, m api.Machine, call int) string {
		next, n, e := calls[call].do(p, m)
		refs, f := collect.Roots(p, m)
		return fmt.Sprint(next, n, e, refs, f)
	}
	var l []asked
	along(t, 4, 20, func(rnd *rand.Rand, p api.Program, m api.Machine) {
		if rnd.Intn(4) == 0 {
			m = spoilt(rnd, m)
		}
		for call := range calls {
			l = append(l, asked{p, m, call, say(p, m, call)})
		}
	})
	for _, a := range slices.Backward(l) {
		if got := say(a.p, a.m, a.call); got != a.got {
			t.Fatalf("%v: %s %v: %s, and %s at first", a.p, calls[a.call].name, a.m, got, a.got)
		}
	}
}
