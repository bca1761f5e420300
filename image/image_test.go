package image_test

import (
	"fmt"
	"math"
	"slices"
	"strings"
	"testing"

	"mizzen/api"
	"mizzen/image"
	"mizzen/machine"
)

// fn: a function; its code is told by codes and As in turn.
func fn(params int, locals []int, l ...int) api.Func {
	f := api.Func{Params: params, Locals: locals}
	for c := range slices.Chunk(l, 2) {
		f.Code = append(f.Code, api.Op{Code: c[0], A: c[1]})
	}
	return f
}

func program(l ...api.Func) api.Program { return api.Program{Funcs: l} }

func number(n int) api.Value { return api.Value{N: n} }
func ref(n int) api.Value    { return api.Value{Ref: true, N: n} }

// deep: function 0 has a block and a number on its stack while it calls 1, which receives with a block on its own.
func deep() api.Program {
	const i, r = api.TypeInt, api.TypeRef
	return program(
		fn(0, []int{i, r, r}, api.OpLoad, 1, api.OpLoad, 0, api.OpLoad, 2, api.OpCall, 1, api.OpPop, 0, api.OpPop, 0, api.OpRet, 0),
		fn(1, []int{r, i}, api.OpLoad, 0, api.OpRecv, 0, api.OpPop, 0, api.OpPop, 0, api.OpRet, 0),
	)
}

// full: a machine of deep, of whose parts none is without something in it.
func full() api.Machine {
	return api.Machine{
		Frames: []api.Frame{
			{Func: 0, Pc: 4, Locals: []api.Value{number(-2), ref(3), ref(0)}, Stack: []api.Value{ref(2), number(api.MaxInt)}},
			{Func: 1, Pc: 1, Locals: []api.Value{ref(1), number(api.MinInt)}, Stack: []api.Value{ref(3)}},
		},
		Blocks: [][]int{{7, -1}, {}, {258}},
		In:     []int{1, -256, api.MaxInt},
		Out:    []int{api.MinInt, 65536},
	}
}

// bytesOfFull, part by part.
const bytesOfFull = "\x00\x00" +
	"\x03" + "\x00\x00\x00\x01" + "\xff\xff\xff\x00" + "\x7f\xff\xff\xff" +
	"\x02" + "\x80\x00\x00\x00" + "\x00\x01\x00\x00" +
	"\x03" +
	"\x02" + "\x00\x00\x00\x07" + "\xff\xff\xff\xff" +
	"\x00" +
	"\x01" + "\x00\x00\x01\x02" +
	"\x02" +
	"\x00\x04" +
	"\x03" + "\x00\xff\xff\xff\xfe" + "\x01\x00\x00\x00\x03" + "\x01\x00\x00\x00\x00" +
	"\x02" + "\x01\x00\x00\x00\x02" + "\x00\x7f\xff\xff\xff" +
	"\x01\x01" +
	"\x02" + "\x01\x00\x00\x00\x01" + "\x00\x80\x00\x00\x00" +
	"\x01" + "\x01\x00\x00\x00\x03"

// wantBytes: that a machine is saved as these, and restored as it was.
func wantBytes(t *testing.T, p api.Program, m api.Machine, want string) {
	t.Helper()
	s, e := image.Save(p, m)
	if s != want || e != api.OK {
		t.Errorf("Save %v: %x %d, want %x", m, s, e, want)
	}
	got, e := image.Restore(p, want)
	if fmt.Sprint(got) != fmt.Sprint(m) || e != api.OK {
		t.Errorf("Restore %x: %v %d, want %v", want, got, e, m)
	}
}

func wantSaveError(t *testing.T, p api.Program, m api.Machine, want api.Errno) {
	t.Helper()
	if s, e := image.Save(p, m); s != "" || e != want {
		t.Errorf("%v: Save %v: %q %d, want %d", p, m, s, e, want)
	}
}

func wantRestoreError(t *testing.T, p api.Program, s string, want api.Errno) {
	t.Helper()
	if m, e := image.Restore(p, s); fmt.Sprint(m) != fmt.Sprint(api.Machine{}) || e != want {
		t.Errorf("%v: Restore %x: %v %d, want %d", p, s, m, e, want)
	}
}

// with another byte at a place.
func with(s string, at int, b byte) string { return s[:at] + string([]byte{b}) + s[at+1:] }

func TestJ1Bytes(t *testing.T) {
	wantBytes(t, deep(), full(), bytesOfFull)
	wantBytes(t, deep(), api.Machine{Status: api.Done}, "\x02\x00\x00\x00\x00\x00")
	wantBytes(t, deep(), api.Machine{Status: api.Done, Blocks: [][]int{{}, {}}, Out: []int{5}}, "\x02\x00\x00\x01\x00\x00\x00\x05\x02\x00\x00\x00")
	start, _ := machine.Start(deep())
	wantBytes(t, deep(), start, "\x00\x00\x00\x00\x00\x01\x00\x00\x03\x00\x00\x00\x00\x00\x01\x00\x00\x00\x00\x01\x00\x00\x00\x00\x00")
}

func TestJ1Statuses(t *testing.T) {
	m := full()
	for trap := api.TrapNone; trap <= api.TrapSend; trap++ {
		m.Status, m.Trap = api.Trapped, trap
		wantBytes(t, deep(), m, string([]byte{3, byte(trap)})+bytesOfFull[2:])
	}
	m.Status, m.Trap, m.In = api.Waiting, 0, nil
	wantBytes(t, deep(), m, "\x01\x00\x00"+bytesOfFull[15:])
}

// TestJ1Limits: as much of everything as there may be.
func TestJ1Limits(t *testing.T) {
	calls := program(fn(0, slices.Repeat([]int{api.TypeInt}, 6), api.OpCall, 0, api.OpRet, 0))
	m := api.Machine{
		Blocks: [][]int{slices.Repeat([]int{-1}, 40), {}, {}, {}, {}, {}, {}, {}},
		In:     slices.Repeat([]int{2}, 10),
		Out:    slices.Repeat([]int{3}, 10),
	}
	locals := "\x06" + strings.Repeat("\x00\x00\x00\x00\x09", 6)
	s := "\x00\x00\x0a" + strings.Repeat("\x00\x00\x00\x02", 10) + "\x0a" + strings.Repeat("\x00\x00\x00\x03", 10) +
		"\x08\x28" + strings.Repeat("\xff", 160) + strings.Repeat("\x00", 7) + "\x06"
	for frame := range 6 {
		f := api.Frame{Pc: 1, Locals: slices.Repeat([]api.Value{number(9)}, 6)}
		if frame == 5 {
			f.Pc = 0
		}
		m.Frames = append(m.Frames, f)
		s += string([]byte{0, byte(f.Pc)}) + locals + "\x00"
	}
	wantBytes(t, calls, m, s)
}

// TestJ1LastPlace of the longest code, with the stack full.
func TestJ1LastPlace(t *testing.T) {
	code := slices.Concat(slices.Repeat([]int{api.OpPush, 1}, 8), slices.Repeat([]int{api.OpSwap, 0}, 31), []int{api.OpJump, 8})
	m := api.Machine{Frames: []api.Frame{{Pc: 39, Stack: slices.Repeat([]api.Value{number(-9)}, 8)}}}
	wantBytes(t, program(fn(0, nil, code...)), m, "\x00\x00\x00\x00\x00\x01\x00\x27\x00\x08"+strings.Repeat("\x00\xff\xff\xff\xf7", 8))
}

func TestJ1SaveErrors(t *testing.T) {
	wantSaveError(t, api.Program{}, full(), api.ErrNone)
	wantSaveError(t, program(fn(0, nil, api.OpPop, 0, api.OpRet, 0)), full(), api.ErrState)
	wantSaveError(t, program(fn(0, nil, api.OpRet, 1)), full(), api.ErrForm)
	wantSaveError(t, deep(), api.Machine{}, api.ErrNone)
	for _, n := range []int{-1, 4, 256, math.MinInt, math.MaxInt} {
		m := full()
		m.Status = n
		wantSaveError(t, deep(), m, api.ErrKind)
		m = full()
		m.Trap = n
		wantSaveError(t, deep(), m, api.ErrForm)
		m = full()
		m.Frames[1].Func = n
		wantSaveError(t, deep(), m, api.ErrRange)
		m = full()
		m.Frames[0].Locals[1].N = n
		wantSaveError(t, deep(), m, api.ErrRange)
	}
	m := full()
	m.In = make([]int, 11)
	wantSaveError(t, deep(), m, api.ErrMany)
	m.In = []int{1 << 31}
	wantSaveError(t, deep(), m, api.ErrRange)
	m.In, m.Frames[1].Pc = nil, 256+1
	wantSaveError(t, deep(), m, api.ErrNone)
	m.Frames[1].Pc, m.Frames[1].Locals = 1, nil
	wantSaveError(t, deep(), m, api.ErrForm)
}

// TestJ1TooFewTooMany: too few, wherever they end, and too many, whatever is behind.
func TestJ1TooFewTooMany(t *testing.T) {
	for many := range len(bytesOfFull) {
		wantRestoreError(t, deep(), bytesOfFull[:many], api.ErrForm)
	}
	for _, more := range []string{"\x00", "\x01", "\xff", bytesOfFull, strings.Repeat("\x00", 100000)} {
		wantRestoreError(t, deep(), bytesOfFull+more, api.ErrForm)
	}
	for _, s := range []string{"\x00\x00\xff", strings.Repeat("\xff", 100), strings.Repeat("\xff", 3000000), "\x00\x00\x00\x00\xff"} {
		wantRestoreError(t, deep(), s, api.ErrForm)
	}
}

// TestJ1FirstBytes of values: 0 or 1, and no others.
func TestJ1FirstBytes(t *testing.T) {
	begin := strings.Index(bytesOfFull, "\x00\x04\x03\x00\xff") + 3
	for _, at := range []int{0, 5, 10, 16, 21, 29, 34, 40} {
		for b := 2; b < 256; b++ {
			wantRestoreError(t, deep(), with(bytesOfFull, begin+at, byte(b)), api.ErrForm)
		}
		other := bytesOfFull[begin+at] ^ 1
		if _, e := image.Restore(deep(), with(bytesOfFull, begin+at, other)); e == api.ErrForm || e == api.OK {
			t.Errorf("Restore with another sort of value at %d: %d", at, e)
		}
	}
}

// TestJ1RestoreErrors: the program's ahead of the form's, and this one ahead of what Check says.
func TestJ1RestoreErrors(t *testing.T) {
	for _, s := range []string{"", "\x00", bytesOfFull, bytesOfFull + "\x00", "\x09" + bytesOfFull[1:]} {
		wantRestoreError(t, api.Program{}, s, api.ErrNone)
		wantRestoreError(t, program(make([]api.Func, 6)...), s, api.ErrMany)
		wantRestoreError(t, program(fn(0, nil, api.OpPop, 0, api.OpRet, 0)), s, api.ErrState)
		wantRestoreError(t, program(fn(0, nil, 99, 0)), s, api.ErrKind)
	}
	wantRestoreError(t, deep(), "\x09"+bytesOfFull[1:]+"\x00", api.ErrForm)
	wantRestoreError(t, deep(), "\x09"+bytesOfFull[1:len(bytesOfFull)-1], api.ErrForm)
	wantRestoreError(t, deep(), "\x04"+bytesOfFull[1:], api.ErrKind)
	wantRestoreError(t, deep(), with(bytesOfFull, 1, 1), api.ErrForm)
	wantRestoreError(t, deep(), "\x03\x06"+bytesOfFull[2:], api.ErrForm)
	wantRestoreError(t, deep(), "\x01"+bytesOfFull[1:], api.ErrState)
	wantRestoreError(t, deep(), "\x02"+bytesOfFull[1:], api.ErrForm)
	wantRestoreError(t, deep(), "\x00\x00\x00\x00\x00\x00", api.ErrNone)
	wantRestoreError(t, deep(), "\x02\x00\x0b"+strings.Repeat("\x00", 44)+"\x00\x00\x00", api.ErrMany)
	wantRestoreError(t, deep(), "\x02\x00\x00\x00\x09"+strings.Repeat("\x00", 9)+"\x00", api.ErrMany)
	wantRestoreError(t, deep(), "\x02\x00\x00\x00\x01\x29"+strings.Repeat("\x00", 164)+"\x00", api.ErrMany)
	last := len(bytesOfFull) - 4
	wantRestoreError(t, deep(), bytesOfFull[:last]+"\x00\x00\x00\x04", api.ErrRange)
	wantRestoreError(t, deep(), bytesOfFull[:last]+"\xff\xff\xff\xff", api.ErrRange)
	wantRestoreError(t, deep(), bytesOfFull[:last]+"\x01\x00\x00\x01", api.ErrRange)
}

// TestJ1AnyByte: whatever one byte is, the bytes are refused, or they tell a machine that is saved as them.
func TestJ1AnyByte(t *testing.T) {
	restored := 0
	for at := range len(bytesOfFull) {
		for b := range 256 {
			s := with(bytesOfFull, at, byte(b))
			m, e := image.Restore(deep(), s)
			if e != api.OK {
				wantRestoreError(t, deep(), s, e)
				continue
			}
			restored++
			if again, e := image.Save(deep(), m); again != s || e != api.OK {
				t.Errorf("Restore %x: %v, of which Save says %x %d", s, m, again, e)
			}
		}
	}
	if restored < 9000 {
		t.Errorf("only %d were restored", restored)
	}
}

// TestJ2: restored ahead of each step it does as it did.
func TestJ2(t *testing.T) {
	m := full()
	again := full()
	for range 12 {
		s, e := image.Save(deep(), again)
		if e != api.OK {
			t.Fatalf("Save %v: %d", again, e)
		}
		if again, e = image.Restore(deep(), s); e != api.OK || fmt.Sprint(again) != fmt.Sprint(m) {
			t.Fatalf("Restore %x: %v %d, want %v", s, again, e, m)
		}
		m, _ = machine.Step(deep(), m)
		again, _ = machine.Step(deep(), again)
	}
	if m.Status != api.Done {
		t.Errorf("at last: %v", m)
	}
}
