package world_test

import (
	"fmt"
	"math"
	"slices"
	"testing"

	"mizzen/api"
	"mizzen/machine"
	"mizzen/meter"
	"mizzen/world"
)

// fn: a function without params; its code is told by codes and As in turn.
func fn(l ...int) api.Func {
	var f api.Func
	for c := range slices.Chunk(l, 2) {
		f.Code = append(f.Code, api.Op{Code: c[0], A: c[1]})
	}
	return f
}

func program(l ...api.Func) api.Program { return api.Program{Funcs: l} }

// echo: takes a number, sends it and 1, and begins anew.
func echo() api.Program {
	return program(fn(api.OpRecv, 0, api.OpPush, 1, api.OpAdd, 0, api.OpSend, 0, api.OpJump, 0))
}

// Programs that are none, or do not fit, with what is said of them.
var wrongPrograms = []struct {
	p    api.Program
	want api.Errno
}{
	{api.Program{}, api.ErrNone},
	{program(make([]api.Func, 6)...), api.ErrMany},
	{program(fn(api.OpRet, 1)), api.ErrForm},
	{program(fn(99, 0)), api.ErrKind},
	{program(fn(api.OpJump, 1)), api.ErrRange},
	{program(fn(api.OpPop, 0, api.OpRet, 0)), api.ErrState},
}

// of echo, at its beginning.
func of(status int, in, out []int) api.Machine {
	m := api.Machine{Status: status, In: in, Out: out}
	if status != api.Done {
		m.Frames = []api.Frame{{}}
	}
	if status == api.Trapped {
		m.Trap = api.TrapSend
	}
	return m
}

func side(l ...api.Machine) api.World { return api.World{Machines: l} }

// row of so many numbers, from one on.
func row(first, many int) []int {
	var l []int
	for n := range many {
		l = append(l, first+n)
	}
	return l
}

func wantRight(t *testing.T, p api.Program, w api.World) {
	t.Helper()
	if e := world.Check(p, w); e != api.OK {
		t.Errorf("%v: Check says %d", w, e)
	}
}

func wantMail(t *testing.T, w, want api.World, went int) {
	t.Helper()
	got, n, e := world.Mail(echo(), w)
	if fmt.Sprint(got) != fmt.Sprint(want) || n != went || e != api.OK {
		t.Errorf("Mail %v: %v %d %d, want %v %d", w, got, n, e, want, went)
	}
	wantRight(t, echo(), got)
}

func wantTurn(t *testing.T, p api.Program, w api.World, fuel int, want api.World) {
	t.Helper()
	got, e := world.Turn(p, w, fuel)
	if fmt.Sprint(got) != fmt.Sprint(want) || e != api.OK {
		t.Errorf("Turn %v %d: %v %d, want %v", w, fuel, got, e, want)
	}
	wantRight(t, p, got)
}

func wantSend(t *testing.T, w api.World, to, n int, want api.World, errno api.Errno) {
	t.Helper()
	got, e := world.Send(echo(), w, to, n)
	if fmt.Sprint(got) != fmt.Sprint(want) || e != errno {
		t.Errorf("Send %v %d %d: %v %d, want %v %d", w, to, n, got, e, want, errno)
	}
}

// wantErrors of all calls; those that Turn and Send say of what else they are handed come behind.
func wantErrors(t *testing.T, p api.Program, w api.World, want api.Errno) {
	t.Helper()
	none := fmt.Sprint(api.World{})
	if e := world.Check(p, w); e != want {
		t.Errorf("%v: Check %v: %d, want %d", p, w, e, want)
	}
	if got, n, e := world.Mail(p, w); fmt.Sprint(got) != none || n != 0 || e != want {
		t.Errorf("%v: Mail %v: %v %d %d, want %d", p, w, got, n, e, want)
	}
	for _, fuel := range []int{0, 10, 10000, -1, 10001} {
		if got, e := world.Turn(p, w, fuel); fmt.Sprint(got) != none || e != want {
			t.Errorf("%v: Turn %v %d: %v %d, want %d", p, w, fuel, got, e, want)
		}
	}
	for _, to := range []int{-1, 0, len(w.Machines)} {
		for _, n := range []int{0, 1 << 31} {
			if got, e := world.Send(p, w, to, n); fmt.Sprint(got) != none || e != want {
				t.Errorf("%v: Send %v %d %d: %v %d, want %d", p, w, to, n, got, e, want)
			}
		}
	}
}

func TestI1Check(t *testing.T) {
	m := of(api.Running, row(1, 10), row(11, 10))
	wantRight(t, echo(), side(m))
	wantRight(t, echo(), side(m, of(api.Waiting, nil, nil), of(api.Done, row(1, 10), nil), of(api.Trapped, nil, row(1, 10))))
	for _, c := range wrongPrograms {
		wantErrors(t, c.p, side(m), c.want)
		wantErrors(t, c.p, side(m, m, m, m, m), c.want)
		wantErrors(t, c.p, side(), c.want)
		wantErrors(t, c.p, side(api.Machine{Status: 4}), c.want)
	}
	wantErrors(t, echo(), side(), api.ErrNone)
	wantErrors(t, echo(), api.World{Machines: []api.Machine{}}, api.ErrNone)
	wantErrors(t, echo(), side(m, m, m, m, m), api.ErrMany)
	wantErrors(t, echo(), side(make([]api.Machine, 5)...), api.ErrMany)
	wantErrors(t, echo(), side(make([]api.Machine, 1000)...), api.ErrMany)
}

// TestI1CheckOfEach: wherever a wrong machine is it tells, and the first one of several.
func TestI1CheckOfEach(t *testing.T) {
	right := of(api.Running, nil, nil)
	wrong := []struct {
		m    api.Machine
		want api.Errno
	}{
		{api.Machine{Status: 4}, api.ErrKind},
		{api.Machine{}, api.ErrNone},
		{api.Machine{Status: api.Done, Trap: 1}, api.ErrForm},
		{of(api.Done, row(1, 11), nil), api.ErrMany},
		{of(api.Running, nil, []int{1 << 31}), api.ErrRange},
		{of(api.Waiting, []int{1}, nil), api.ErrState},
	}
	for _, c := range wrong {
		for at := range 4 {
			w := side(right, right, right, right)
			w.Machines[at] = c.m
			wantErrors(t, echo(), w, c.want)
			for _, other := range wrong {
				if at < 3 {
					w.Machines[at+1] = other.m
					wantErrors(t, echo(), w, c.want)
				}
			}
		}
		wantErrors(t, echo(), side(c.m), c.want)
	}
}

// TestI1MailGoesRound: from each one to the next one, from the last one to the first one, behind what is there.
func TestI1MailGoesRound(t *testing.T) {
	run := func(in, out []int) api.Machine { return of(api.Running, in, out) }
	wantMail(t, side(run(nil, nil)), side(run(nil, nil)), 0)
	wantMail(t, side(run(nil, []int{1, 2})), side(run([]int{1, 2}, nil)), 2)
	wantMail(t, side(run([]int{5, 6}, []int{1, 2})), side(run([]int{5, 6, 1, 2}, nil)), 2)
	wantMail(t, side(run([]int{1}, []int{2}), run([]int{3, 4}, []int{5, 6, 7})), side(run([]int{1, 5, 6, 7}, nil), run([]int{3, 4, 2}, nil)), 4)
	wantMail(t, side(run(nil, nil), run(nil, []int{8}), run(nil, nil)), side(run(nil, nil), run(nil, nil), run([]int{8}, nil)), 1)
	wantMail(t,
		side(run([]int{1}, []int{10}), run([]int{2}, []int{20, 21}), run([]int{3}, []int{30}), run([]int{4}, []int{api.MinInt, api.MaxInt})),
		side(run([]int{1, api.MinInt, api.MaxInt}, nil), run([]int{2, 10}, nil), run([]int{3, 20, 21}, nil), run([]int{4, 30}, nil)), 6)
}

// TestI1MailRoom: the first ones go, as many as there is room for; the rest stays, in order.
func TestI1MailRoom(t *testing.T) {
	for in := 0; in <= 10; in++ {
		for out := 0; out <= 10; out++ {
			went := min(out, 10-in)
			full := append(row(100, in), row(0, went)...)
			stay := row(went, out-went)
			wantMail(t, side(of(api.Running, row(100, in), row(0, out))), side(of(api.Running, full, stay)), went)
			wantMail(t,
				side(of(api.Running, nil, row(0, out)), of(api.Running, row(100, in), []int{7})),
				side(of(api.Running, []int{7}, stay), of(api.Running, full, nil)), went+1)
			wantMail(t,
				side(of(api.Running, row(100, in), nil), of(api.Running, nil, nil), of(api.Running, nil, row(0, out))),
				side(of(api.Running, full, nil), of(api.Running, nil, nil), of(api.Running, nil, stay)), went)
		}
	}
}

// TestI1MailStatus: who waits goes on when something comes, and not else; all others are as they were, and are sent to, too.
func TestI1MailStatus(t *testing.T) {
	wantMail(t, side(of(api.Waiting, nil, nil)), side(of(api.Waiting, nil, nil)), 0)
	wantMail(t, side(of(api.Waiting, nil, []int{3})), side(of(api.Running, []int{3}, nil)), 1)
	wantMail(t,
		side(of(api.Waiting, nil, []int{3}), of(api.Waiting, nil, nil), of(api.Waiting, nil, nil)),
		side(of(api.Waiting, nil, nil), of(api.Running, []int{3}, nil), of(api.Waiting, nil, nil)), 1)
	for _, status := range []int{api.Running, api.Done, api.Trapped} {
		wantMail(t,
			side(of(api.Waiting, nil, row(1, 10)), of(status, row(20, 4), []int{9})),
			side(of(api.Running, []int{9}, row(7, 4)), of(status, append(row(20, 4), row(1, 6)...), nil)), 7)
		wantMail(t,
			side(of(api.Waiting, nil, []int{1}), of(status, row(20, 10), nil)),
			side(of(api.Waiting, nil, []int{1}), of(status, row(20, 10), nil)), 0)
	}
}

// TestI1MailKeeps frames and blocks.
func TestI1MailKeeps(t *testing.T) {
	p := program(fn(api.OpPush, 2, api.OpNew, 0, api.OpRecv, 0, api.OpSend, 0, api.OpPop, 0, api.OpRet, 0))
	m := api.Machine{Frames: []api.Frame{{Pc: 2, Stack: []api.Value{{Ref: true, N: 1}}}}, Blocks: [][]int{{4, 5}, {}}, Status: api.Waiting}
	n := m
	n.Out = []int{1}
	got, went, e := world.Mail(p, side(m, n))
	m.In, m.Status, n.Out = []int{1}, api.Running, nil
	if fmt.Sprint(got) != fmt.Sprint(side(m, n)) || went != 1 || e != api.OK {
		t.Errorf("Mail: %v %d %d", got, went, e)
	}
}

// TestI1Turn: each one runs with all that fuel; what is sent in this turn is there behind it.
func TestI1Turn(t *testing.T) {
	start := func(in ...int) api.Machine { return of(api.Running, in, nil) }
	w := side(start(4), start(), start(7, 8))
	at := func(pc int, stack ...int) []api.Frame {
		f := api.Frame{Pc: pc}
		for _, n := range stack {
			f.Stack = append(f.Stack, api.Value{N: n})
		}
		return []api.Frame{f}
	}
	wantTurn(t, echo(), w, 0, w)
	wantTurn(t, echo(), w, 1, side(api.Machine{Frames: at(1, 4)}, of(api.Waiting, nil, nil), api.Machine{Frames: at(1, 7), In: []int{8}}))
	wantTurn(t, echo(), w, 2, side(api.Machine{Frames: at(2, 4, 1)}, of(api.Waiting, nil, nil), api.Machine{Frames: at(2, 7, 1), In: []int{8}}))
	wantTurn(t, echo(), w, 4, side(api.Machine{Frames: at(4), In: []int{8}}, of(api.Running, []int{5}, nil), api.Machine{Frames: at(4), In: []int{8}}))
	wantTurn(t, echo(), w, 5, side(start(8), start(5), start(8)))
	for _, fuel := range []int{11, 12, 9999, 10000} {
		wantTurn(t, echo(), w, fuel, side(start(8, 9), start(5), of(api.Waiting, nil, nil)))
	}
	wantTurn(t, echo(), side(start(4)), 100, side(start(5)))
}

// TestI1TurnMails what was in Out ahead of it, too, and whoever can't run.
func TestI1TurnMails(t *testing.T) {
	w := side(of(api.Done, nil, row(1, 3)), of(api.Waiting, nil, row(11, 10)), of(api.Trapped, row(30, 8), row(40, 2)))
	want := side(of(api.Done, row(40, 2), nil), of(api.Running, row(1, 3), row(13, 8)), of(api.Trapped, append(row(30, 8), 11, 12), nil))
	for _, fuel := range []int{0, 1, 10000} {
		wantTurn(t, echo(), w, fuel, want)
	}
	flood := program(fn(api.OpPush, 5, api.OpSend, 0, api.OpJump, 0))
	five := func(many int) []int { return slices.Repeat([]int{5}, many) }
	m, _ := machine.Start(flood)
	trapped := api.Machine{Frames: []api.Frame{{Pc: 1, Stack: []api.Value{{N: 5}}}}, In: five(10), Status: api.Trapped, Trap: api.TrapSend}
	wantTurn(t, flood, side(m, m), 30, side(api.Machine{Frames: m.Frames, In: five(10)}, api.Machine{Frames: m.Frames, In: five(10)}))
	wantTurn(t, flood, side(m, m), 32, side(trapped, trapped))
}

func TestI1TurnErrors(t *testing.T) {
	w := side(of(api.Running, nil, []int{1}), of(api.Done, nil, nil))
	for _, fuel := range []int{math.MinInt, -1, 10001, 1 << 32, math.MaxInt} {
		if got, e := world.Turn(echo(), w, fuel); fmt.Sprint(got) != fmt.Sprint(api.World{}) || e != api.ErrRange {
			t.Errorf("Turn %d: %v %d", fuel, got, e)
		}
	}
}

func TestI1Send(t *testing.T) {
	w := side(of(api.Running, []int{1}, []int{2}), of(api.Waiting, nil, []int{3}), of(api.Done, nil, nil), of(api.Trapped, row(1, 9), nil))
	for to, m := range []api.Machine{of(api.Running, []int{1, 8}, []int{2}), of(api.Running, []int{8}, []int{3}), of(api.Done, []int{8}, nil), of(api.Trapped, append(row(1, 9), 8), nil)} {
		want := side(slices.Clone(w.Machines)...)
		want.Machines[to] = m
		wantSend(t, w, to, 8, want, api.OK)
		wantRight(t, echo(), want)
	}
	for _, n := range []int{0, -1, api.MinInt, api.MaxInt} {
		wantSend(t, side(of(api.Waiting, nil, nil)), 0, n, side(of(api.Running, []int{n}, nil)), api.OK)
	}
}

func TestI1SendErrors(t *testing.T) {
	w := side(of(api.Running, row(1, 10), nil), of(api.Running, row(1, 9), nil))
	for _, to := range []int{math.MinInt, -1, 2, 3, 1 << 32, math.MaxInt} {
		wantSend(t, w, to, 1, api.World{}, api.ErrRange)
	}
	for _, n := range []int{math.MinInt, api.MinInt - 1, api.MaxInt + 1, 1 << 32, math.MaxInt} {
		wantSend(t, w, 0, n, api.World{}, api.ErrRange)
		wantSend(t, w, 1, n, api.World{}, api.ErrRange)
		wantSend(t, w, 2, n, api.World{}, api.ErrRange)
	}
	wantSend(t, w, 0, 1, api.World{}, api.ErrSpace)
	wantSend(t, w, 1, 1, side(of(api.Running, row(1, 10), nil), of(api.Running, append(row(1, 9), 1), nil)), api.OK)
	for _, status := range []int{api.Done, api.Trapped} {
		wantSend(t, side(of(status, row(1, 10), nil)), 0, 1, api.World{}, api.ErrSpace)
	}
}

// TestI2HangsOnItself: whatever stands beside a machine, and wherever it stands, its turn is that of the machine alone, but for what the one ahead sends.
func TestI2HangsOnItself(t *testing.T) {
	m := of(api.Running, []int{6, 7, 8}, []int{1})
	alone, _, _ := meter.Run(echo(), m, 13)
	beside := []api.Machine{of(api.Running, nil, nil), of(api.Waiting, nil, nil), of(api.Done, nil, nil), of(api.Trapped, row(1, 10), nil), of(api.Running, row(1, 10), nil)}
	for _, other := range beside {
		for at := range 4 {
			w := side(other, other, other, other)
			w.Machines[at] = m
			got, e := world.Turn(echo(), w, 13)
			if e != api.OK {
				t.Fatalf("Turn %v: %d", w, e)
			}
			if in := got.Machines[at].In; fmt.Sprint(got.Machines[at].Frames) != fmt.Sprint(alone.Frames) || !slices.Equal(in[:len(alone.In)], alone.In) {
				t.Errorf("Turn %v: %v, alone %v", w, got, alone)
			}
		}
	}
}

// TestI2NothingIsLost: a number goes round, one more by each machine that it comes to.
func TestI2NothingIsLost(t *testing.T) {
	for many := 1; many <= 4; many++ {
		w := side(slices.Repeat([]api.Machine{of(api.Waiting, nil, nil)}, many)...)
		w, e := world.Send(echo(), w, 0, 100)
		for turn := range 20 {
			for at, m := range w.Machines {
				var in []int
				if at == turn%many {
					in = []int{100 + turn}
				}
				if !slices.Equal(m.In, in) || len(m.Out) > 0 || e != api.OK {
					t.Fatalf("%d machines, turn %d: %v %d", many, turn, w, e)
				}
			}
			w, e = world.Turn(echo(), w, 50)
		}
	}
}
