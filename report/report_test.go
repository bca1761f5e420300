package report_test

import (
	"fmt"
	"math"
	"math/rand"
	"slices"
	"strings"
	"testing"

	"mizzen/api"
	"mizzen/machine"
	"mizzen/report"
)

// fn: a function without params; its code is told by codes and As in turn.
func fn(locals []int, l ...int) api.Func {
	f := api.Func{Locals: locals}
	for c := range slices.Chunk(l, 2) {
		f.Code = append(f.Code, api.Op{Code: c[0], A: c[1]})
	}
	return f
}

func program(l ...api.Func) api.Program { return api.Program{Funcs: l} }

// waits: takes numbers for ever.
func waits() api.Program { return program(fn(nil, api.OpRecv, 0, api.OpPop, 0, api.OpJump, 0)) }

// deep: calls itself for ever.
func deep() api.Program { return program(fn(nil, api.OpCall, 0, api.OpRet, 0)) }

func wantOf(t *testing.T, p api.Program, m api.Machine, want api.Report) {
	t.Helper()
	got, e := report.Of(p, m)
	if fmt.Sprint(got) != fmt.Sprint(want) || e != api.OK {
		t.Errorf("Of %v: %v %d, want %v", m, got, e, want)
	}
}

func wantOfError(t *testing.T, p api.Program, m api.Machine, want api.Errno) {
	t.Helper()
	if got, e := report.Of(p, m); fmt.Sprint(got) != fmt.Sprint(api.Report{}) || e != want {
		t.Errorf("%v: Of %v: %v %d, want %d", p, m, got, e, want)
	}
}

// wantText: that a report is told so, and read as it was.
func wantText(t *testing.T, r api.Report, want string) {
	t.Helper()
	s, e := report.Text(r)
	if s != want || e != api.OK {
		t.Errorf("Text %v: %q %d, want %q", r, s, e, want)
	}
	got, e := report.Read(want)
	if fmt.Sprint(got) != fmt.Sprint(r) || e != api.OK {
		t.Errorf("Read %q: %v %d, want %v", want, got, e, r)
	}
}

func wantTextError(t *testing.T, r api.Report, want api.Errno) {
	t.Helper()
	if s, e := report.Text(r); s != "" || e != want {
		t.Errorf("Text %v: %q %d, want %d", r, s, e, want)
	}
}

func wantNone(t *testing.T, s string) {
	t.Helper()
	if r, e := report.Read(s); fmt.Sprint(r) != fmt.Sprint(api.Report{}) || e != api.ErrForm {
		t.Errorf("Read %.200q: %v %d", s, r, e)
	}
}

func TestK1Of(t *testing.T) {
	frame := []api.Frame{{}}
	wantOf(t, waits(), api.Machine{Frames: frame}, api.Report{Depth: 1})
	wantOf(t, waits(), api.Machine{Frames: frame, Status: api.Waiting}, api.Report{Status: 1, Depth: 1})
	wantOf(t, waits(), api.Machine{Status: api.Done}, api.Report{Status: 2})
	for trap := 1; trap <= 5; trap++ {
		wantOf(t, waits(), api.Machine{Frames: frame, Status: api.Trapped, Trap: trap}, api.Report{Status: 3, Trap: trap, Depth: 1})
	}
	wantOf(t, waits(), api.Machine{Frames: frame, In: []int{1, 2, 3}}, api.Report{Depth: 1})
	wantOf(t, waits(), api.Machine{Frames: frame, In: []int{9}, Out: []int{5, -5, 5}}, api.Report{Depth: 1, Out: []int{5, -5, 5}})
	wantOf(t, waits(), api.Machine{Status: api.Done, Out: []int{api.MinInt, api.MaxInt}}, api.Report{Status: 2, Out: []int{api.MinInt, api.MaxInt}})
}

// TestK1Cells: numbers of all blocks, whoever has them, and not how many blocks there are.
func TestK1Cells(t *testing.T) {
	for _, c := range []struct {
		blocks [][]int
		want   int
	}{
		{nil, 0},
		{[][]int{}, 0},
		{[][]int{{}}, 0},
		{make([][]int, 8), 0},
		{[][]int{{7}}, 1},
		{[][]int{{0, 0, 0}, {}, {9, 9}}, 5},
		{[][]int{make([]int, 40)}, 40},
		{[][]int{make([]int, 39), nil, {-1}}, 40},
	} {
		wantOf(t, waits(), api.Machine{Frames: []api.Frame{{}}, Blocks: c.blocks}, api.Report{Depth: 1, Cells: c.want})
		wantOf(t, waits(), api.Machine{Status: api.Done, Blocks: c.blocks}, api.Report{Status: 2, Cells: c.want})
	}
}

func TestK1Depth(t *testing.T) {
	m, _ := machine.Start(deep())
	for depth := 1; depth <= 6; depth++ {
		wantOf(t, deep(), m, api.Report{Depth: depth})
		m, _ = machine.Step(deep(), m)
	}
	wantOf(t, deep(), m, api.Report{Status: api.Trapped, Trap: api.TrapDepth, Depth: 6})
}

func TestK1OfErrors(t *testing.T) {
	right := api.Machine{Frames: []api.Frame{{}}}
	for _, m := range []api.Machine{right, {}, {Status: 4}} {
		wantOfError(t, api.Program{}, m, api.ErrNone)
		wantOfError(t, program(make([]api.Func, 6)...), m, api.ErrMany)
		wantOfError(t, program(fn(nil, 99, 0)), m, api.ErrKind)
		wantOfError(t, program(fn(nil, api.OpRet, 1)), m, api.ErrForm)
		wantOfError(t, program(fn(nil, api.OpJump, 1)), m, api.ErrRange)
		wantOfError(t, program(fn(nil, api.OpPop, 0, api.OpRet, 0)), m, api.ErrState)
	}
	frame := right.Frames
	wantOfError(t, waits(), api.Machine{}, api.ErrNone)
	wantOfError(t, waits(), api.Machine{Frames: frame, Status: 4}, api.ErrKind)
	wantOfError(t, waits(), api.Machine{Frames: frame, Status: -1}, api.ErrKind)
	wantOfError(t, waits(), api.Machine{Frames: frame, Trap: 1}, api.ErrForm)
	wantOfError(t, waits(), api.Machine{Frames: frame, Status: api.Trapped}, api.ErrForm)
	wantOfError(t, waits(), api.Machine{Frames: frame, Status: api.Done}, api.ErrForm)
	wantOfError(t, waits(), api.Machine{Frames: frame, Out: make([]int, 11)}, api.ErrMany)
	wantOfError(t, waits(), api.Machine{Frames: frame, Out: []int{1 << 31}}, api.ErrRange)
	wantOfError(t, waits(), api.Machine{Frames: frame, Blocks: make([][]int, 9)}, api.ErrMany)
	wantOfError(t, waits(), api.Machine{Frames: frame, Blocks: [][]int{make([]int, 41)}}, api.ErrMany)
	wantOfError(t, waits(), api.Machine{Frames: slices.Repeat(frame, 7)}, api.ErrMany)
	wantOfError(t, waits(), api.Machine{Frames: []api.Frame{{Pc: 3}}}, api.ErrNone)
	wantOfError(t, waits(), api.Machine{Frames: frame, In: []int{1}, Status: api.Waiting}, api.ErrState)
}

func TestK1Text(t *testing.T) {
	wantText(t, api.Report{}, "status 0 trap 0 depth 0 cells 0 out")
	wantText(t, api.Report{Status: 1, Depth: 2, Cells: 30, Out: []int{}}, "status 1 trap 0 depth 2 cells 30 out")
	wantText(t, api.Report{Status: 3, Trap: 5, Depth: 6, Cells: 40}, "status 3 trap 5 depth 6 cells 40 out")
	wantText(t, api.Report{Status: 2, Out: []int{0}}, "status 2 trap 0 depth 0 cells 0 out 0")
	wantText(t, api.Report{Out: []int{1, -1, 10, -10, 0, 907}}, "status 0 trap 0 depth 0 cells 0 out 1 -1 10 -10 0 907")
	wantText(t, api.Report{Out: []int{api.MinInt, api.MaxInt}}, "status 0 trap 0 depth 0 cells 0 out -2147483648 2147483647")
	wantText(t, api.Report{Out: slices.Repeat([]int{api.MinInt}, 10)}, "status 0 trap 0 depth 0 cells 0 out"+strings.Repeat(" -2147483648", 10))
}

// TestK1AllNumbers that may stand ahead of Out, whether a machine could have them or not.
func TestK1AllNumbers(t *testing.T) {
	for status := range 4 {
		for trap := range 6 {
			for depth := range 7 {
				for cells := range 41 {
					r := api.Report{Status: status, Trap: trap, Depth: depth, Cells: cells, Out: []int{cells - 20}}
					wantText(t, r, fmt.Sprintf("status %d trap %d depth %d cells %d out %d", status, trap, depth, cells, cells-20))
				}
			}
		}
	}
}

func TestK1TextErrors(t *testing.T) {
	far := []int{math.MinInt, api.MinInt - 1, -1 << 32, 1 << 31, 1 << 32, math.MaxInt}
	for _, n := range append(far, -1, 4) {
		wantTextError(t, api.Report{Status: n}, api.ErrKind)
	}
	for _, n := range append(far, -1, 6) {
		wantTextError(t, api.Report{Trap: n}, api.ErrRange)
	}
	for _, n := range append(far, -1, 7) {
		wantTextError(t, api.Report{Depth: n}, api.ErrRange)
	}
	for _, n := range append(far, -1, 41) {
		wantTextError(t, api.Report{Cells: n}, api.ErrRange)
	}
	for _, n := range far {
		wantTextError(t, api.Report{Out: []int{n}}, api.ErrRange)
		wantTextError(t, api.Report{Out: []int{0, 1, 2, 3, 4, 5, 6, 7, 8, n}}, api.ErrRange)
	}
	wantTextError(t, api.Report{Out: make([]int, 11)}, api.ErrMany)
	wantTextError(t, api.Report{Out: make([]int, 100000)}, api.ErrMany)
}

// TestK1TextOrder: of several errors the one that is named first; ErrMany ahead of what is wrong with a number of Out alone.
func TestK1TextOrder(t *testing.T) {
	many := make([]int, 11)
	far := []int{1 << 31}
	both := append(slices.Clone(far), many...)
	wantTextError(t, api.Report{Out: both}, api.ErrMany)
	for _, r := range []api.Report{{Trap: 6}, {Depth: 7}, {Cells: 41}, {Trap: -1}, {Depth: -1}, {Cells: -1}, {Trap: 6, Depth: 7, Cells: 41}} {
		for _, out := range [][]int{nil, many, far, both} {
			r.Out = out
			r.Status = 0
			wantTextError(t, r, api.ErrRange)
			r.Status = 4
			wantTextError(t, r, api.ErrKind)
		}
	}
	for _, out := range [][]int{many, far, both} {
		wantTextError(t, api.Report{Status: -1, Out: out}, api.ErrKind)
	}
}

// TestK1ReadForm: what differs from a Text by little, or by much, is none.
func TestK1ReadForm(t *testing.T) {
	const right = "status 3 trap 5 depth 6 cells 40 out 7 -8"
	wantText(t, api.Report{Status: 3, Trap: 5, Depth: 6, Cells: 40, Out: []int{7, -8}}, right)
	for _, s := range []string{"", " ", "out", "status", "status 0", "status 0 trap 0 depth 0 cells 0", "status 0 trap 0 depth 0 cells 0 ",
		right + " ", " " + right, right + "\n", "\n" + right, right + "\x00", right + right, right + " " + right,
		strings.ToUpper(right), strings.ToTitle(right[:1]) + right[1:], strings.ReplaceAll(right, " ", "  "), strings.ReplaceAll(right, " ", "\t"), strings.ReplaceAll(right, " ", ""),
		"trap 5 status 3 depth 6 cells 40 out 7 -8", "status 3 trap 5 cells 40 depth 6 out 7 -8", "status 3 trap 5 depth 6 cells 40 out: 7 -8", "status 3 trap 5 depth 6 cells 40 out 7, -8"} {
		wantNone(t, s)
	}
	for cut := range len(right) {
		if s := right[:cut]; s != "status 3 trap 5 depth 6 cells 40 out" && s != "status 3 trap 5 depth 6 cells 40 out 7" {
			wantNone(t, s)
		}
		if cut > 0 {
			wantNone(t, right[cut:])
		}
	}
	for _, word := range []string{"status", "trap", "depth", "cells", "out"} {
		for _, other := range []string{"", "x", word + "s", word[1:], "Out", "status"} {
			if other != word {
				wantNone(t, strings.Replace(right, word, other, 1))
			}
		}
	}
}

// TestK1ReadNumbers: digits that are none, or too many, or stand for a number that may not be there.
func TestK1ReadNumbers(t *testing.T) {
	const right = "status 1 trap 2 depth 3 cells 4 out 5 6"
	wantText(t, api.Report{Status: 1, Trap: 2, Depth: 3, Cells: 4, Out: []int{5, 6}}, right)
	for digit := 1; digit <= 6; digit++ {
		d := fmt.Sprint(digit)
		for _, s := range []string{"", " ", "-", "+", "x", "-x", "0x1", "1e0", "1.0", "1_0", "0" + d, "00", "-0", "+0", "+" + d, " " + d, d + " ", "--1", "-01", "\u0663", "'1'",
			"2147483648", "-2147483649", "4294967296", "9223372036854775807", "9223372036854775808", "-9223372036854775808", "18446744073709551616", strings.Repeat("9", 1000), strings.Repeat("0", 1000) + d} {
			wantNone(t, strings.Replace(right, d, s, 1))
		}
	}
	for _, s := range []string{"status 4 trap 0 depth 0 cells 0 out", "status -1 trap 0 depth 0 cells 0 out", "status 0 trap 6 depth 0 cells 0 out", "status 0 trap -1 depth 0 cells 0 out",
		"status 0 trap 0 depth 7 cells 0 out", "status 0 trap 0 depth -1 cells 0 out", "status 0 trap 0 depth 0 cells 41 out", "status 0 trap 0 depth 0 cells -1 out"} {
		wantNone(t, s)
	}
}

func TestK1ReadMany(t *testing.T) {
	const base = "status 0 trap 0 depth 0 cells 0 out"
	for many := range 11 {
		wantText(t, api.Report{Out: slices.Repeat([]int{-7}, many)}, base+strings.Repeat(" -7", many))
		wantNone(t, base+strings.Repeat(" -7", many)+" ")
	}
	for _, many := range []int{11, 12, 100000} {
		wantNone(t, base+strings.Repeat(" -7", many))
	}
	wantNone(t, strings.Repeat(" ", 1000000))
	wantNone(t, base+strings.Repeat(" ", 1000000))
	wantNone(t, base+" "+strings.Repeat("7", 1000000))
}

// someReport, right or nearly so.
func someReport(rnd *rand.Rand) api.Report {
	near := func(most int) int { return rnd.Intn(most+1) + rnd.Intn(40)/39 - rnd.Intn(40)/39 }
	r := api.Report{Status: near(3), Trap: near(5), Depth: near(6), Cells: near(40)}
	for range near(11) {
		r.Out = append(r.Out, int(rnd.Int63()>>rnd.Intn(64))*(1-2*rnd.Intn(2))>>(31*min(rnd.Intn(8), 1)))
	}
	return r
}

// right: whether a report is told at all, asked in another order than Text asks.
func right(r api.Report) bool {
	for _, n := range r.Out {
		if n < -2147483648 || n > 2147483647 {
			return false
		}
	}
	in := func(n, most int) bool { return n >= 0 && n <= most }
	return len(r.Out) <= 10 && in(r.Cells, 40) && in(r.Depth, 6) && in(r.Trap, 5) && in(r.Status, 3)
}

// TestK2: what is told is read as it was.
func TestK2(t *testing.T) {
	rnd := rand.New(rand.NewSource(1))
	told, untold := 0, 0
	for range 50000 {
		r := someReport(rnd)
		if !right(r) {
			untold++
			if s, e := report.Text(r); s != "" || e == api.OK {
				t.Fatalf("Text %v: %q %d", r, s, e)
			}
			continue
		}
		told++
		want := fmt.Sprintf("status %d trap %d depth %d cells %d out", r.Status, r.Trap, r.Depth, r.Cells)
		for _, n := range r.Out {
			want += fmt.Sprintf(" %d", n)
		}
		wantText(t, r, want)
	}
	if told < 10000 || untold < 5000 {
		t.Errorf("%d are told, %d are not", told, untold)
	}
}

// TestK2NothingElse is read: a text with this and that changed in it is none, or the Text of what is read.
func TestK2NothingElse(t *testing.T) {
	rnd := rand.New(rand.NewSource(2))
	read, none := 0, 0
	for range 100000 {
		r := someReport(rnd)
		s, e := report.Text(r)
		if e != api.OK {
			continue
		}
		for range rnd.Intn(3) {
			at := rnd.Intn(len(s) + 1)
			s = s[:at] + []string{"", " ", "0", "1", "-", "9", "out", "\n", "+"}[rnd.Intn(9)] + s[min(at+rnd.Intn(3), len(s)):]
		}
		got, e := report.Read(s)
		if e != api.OK {
			none++
			wantNone(t, s)
			continue
		}
		read++
		if again, e := report.Text(got); again != s || e != api.OK {
			t.Fatalf("Read %q: %v, of which Text says %q %d", s, got, again, e)
		}
	}
	if read < 10000 || none < 10000 {
		t.Errorf("%d are read, %d are none", read, none)
	}
}

// TestP2: a report's list is its own, and what is handed in is only read.
func TestP2(t *testing.T) {
	room := []int{1, 2, 3, 4, 5}
	m := api.Machine{Status: api.Done, Out: room[:3]}
	r, _ := report.Of(waits(), m)
	for i := range r.Out[:cap(r.Out)] {
		r.Out[:cap(r.Out)][i] = 9
	}
	report.Text(api.Report{Out: room[:3]})
	if !slices.Equal(room, []int{1, 2, 3, 4, 5}) {
		t.Errorf("what was handed in is %v", room)
	}
	r, _ = report.Of(waits(), m)
	room[0] = 7
	if !slices.Equal(r.Out, []int{1, 2, 3}) {
		t.Errorf("Out is %v", r.Out)
	}
}

// TestP3 asks once more, with other things asked in between.
func TestP3(t *testing.T) {
	ask := func() string {
		s := ""
		rnd := rand.New(rand.NewSource(3))
		for range 200 {
			text, e := report.Text(someReport(rnd))
			got, f := report.Read(text)
			s += fmt.Sprint(text, e, got, f)
		}
		return s
	}
	if first := ask(); ask() != first {
		t.Error("the same was asked, and something else was answered")
	}
}
