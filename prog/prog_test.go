package prog_test

import (
	"fmt"
	"math"
	"math/rand"
	"slices"
	"strings"
	"testing"

	"mizzen/api"
	"mizzen/prog"
)

// fn: a function; its code is told by codes and As in turn.
func fn(params int, locals []int, result int, l ...int) api.Func {
	f := api.Func{Params: params, Locals: locals, Result: result}
	for c := range slices.Chunk(l, 2) {
		f.Code = append(f.Code, api.Op{Code: c[0], A: c[1]})
	}
	return f
}

func program(l ...api.Func) api.Program { return api.Program{Funcs: l} }

// square is the document's example.
func square() api.Program {
	return program(
		fn(0, nil, 0, api.OpRecv, 0, api.OpCall, 1, api.OpSend, 0, api.OpJump, 0),
		fn(1, []int{api.TypeInt}, api.TypeInt, api.OpLoad, 0, api.OpDup, 0, api.OpMul, 0, api.OpRet, 0),
	)
}

const squareBytes = "\x02" +
	"\x00\x00\x00\x00\x0c" + "\x15\x0c\x00\x00\x00\x01\x14\x0a\x00\x00\x00\x00" +
	"\x01\x01\x01\x01\x00\x08" + "\x08\x00\x00\x00\x00\x03\x07\x0d"

// with: the example, its functions changed.
func with(change func(first, second *api.Func)) api.Program {
	p := square()
	change(&p.Funcs[0], &p.Funcs[1])
	return p
}

// second: the example, its second function changed.
func second(change func(f *api.Func)) api.Program {
	return with(func(_, f *api.Func) { change(f) })
}

// secondCode: the example, whose second function has two locals and this code.
func secondCode(l ...int) api.Program {
	return second(func(f *api.Func) { *f = fn(1, []int{api.TypeInt, api.TypeRef}, api.TypeInt, l...) })
}

func pops(n int) []api.Op { return slices.Repeat([]api.Op{{Code: api.OpPop}}, n) }

// wantCheck: Check has it, and Encode has it and no bytes.
func wantCheck(t *testing.T, p api.Program, want api.Errno) {
	t.Helper()
	if got := prog.Check(p); got != want {
		t.Errorf("Check %v: %d, want %d", p, got, want)
	}
	if s, e := prog.Encode(p); e != want || (s == "") != (want != api.OK) {
		t.Errorf("Encode %v: %x %d, want %d", p, s, e, want)
	}
}

func same(a, b api.Program) bool {
	return slices.EqualFunc(a.Funcs, b.Funcs, func(f, g api.Func) bool {
		return f.Params == g.Params && f.Result == g.Result && slices.Equal(f.Locals, g.Locals) && slices.Equal(f.Code, g.Code)
	})
}

func wantDecode(t *testing.T, s string, want api.Program, errno api.Errno) {
	t.Helper()
	p, e := prog.Decode(s)
	if !same(p, want) || e != errno {
		t.Errorf("Decode %x: %v %d, want %v %d", s, p, e, want, errno)
	}
}

func TestB1HowManyFunctions(t *testing.T) {
	wantCheck(t, api.Program{}, api.ErrNone)
	wantCheck(t, program([]api.Func{}...), api.ErrNone)
	for n := 1; n <= 8; n++ {
		want := api.OK
		if n > 5 {
			want = api.ErrMany
		}
		wantCheck(t, program(slices.Repeat([]api.Func{fn(0, nil, 0, api.OpRet, 0)}, n)...), want)
		if n > 5 {
			wantCheck(t, program(make([]api.Func, n)...), api.ErrMany)
		}
	}
}

func TestB1LocalsAndParams(t *testing.T) {
	for locals := range 10 {
		for _, params := range []int{math.MinInt, -1, 0, 1, locals - 1, locals, locals + 1, 256, math.MaxInt} {
			want := api.OK
			if locals > 6 {
				want = api.ErrMany
			} else if params < 0 || params > locals {
				want = api.ErrRange
			}
			f := fn(params, slices.Repeat([]int{api.TypeInt}, locals), 0, api.OpRet, 0)
			wantCheck(t, program(fn(0, nil, 0, api.OpRet, 0), f), want)
		}
	}
}

func TestB1Types(t *testing.T) {
	for _, n := range []int{math.MinInt, -255, -1, 0, 1, 2, 3, 4, 256, 257, math.MaxInt} {
		local, result := api.ErrKind, api.ErrKind
		if n == 1 || n == 2 {
			local = api.OK
		}
		if n >= 0 && n <= 2 {
			result = api.OK
		}
		for at := range 6 {
			wantCheck(t, second(func(f *api.Func) {
				f.Locals = slices.Repeat([]int{api.TypeRef}, 6)
				f.Locals[at] = n
			}), local)
		}
		wantCheck(t, second(func(f *api.Func) { f.Result = n }), result)
	}
}

func TestB1Code(t *testing.T) {
	wantCheck(t, second(func(f *api.Func) { f.Code = nil }), api.ErrNone)
	wantCheck(t, second(func(f *api.Func) { f.Code = []api.Op{} }), api.ErrNone)
	wantCheck(t, second(func(f *api.Func) { f.Code = pops(40) }), api.OK)
	wantCheck(t, second(func(f *api.Func) { f.Code = pops(41) }), api.ErrMany)
	wantCheck(t, secondCode(0, 0), api.ErrKind)
	wantCheck(t, secondCode(api.OpRet, 0, 22, 0), api.ErrKind)
	wantCheck(t, secondCode(api.OpRet, 1), api.ErrForm)
	wantCheck(t, secondCode(api.OpPush, api.MaxInt+1), api.ErrRange)
	wantCheck(t, secondCode(api.OpPush, api.MaxInt, api.OpPush, api.MinInt), api.OK)
}

// TestB1A: the second function of the example has two locals and four ops, and there are two functions.
func TestB1A(t *testing.T) {
	many := map[int]int{api.OpLoad: 2, api.OpStore: 2, api.OpJump: 4, api.OpZero: 4, api.OpCall: 2}
	for code, n := range many {
		for _, a := range []int{api.MinInt, -2, -1, 0, 1, 2, 3, 4, 5, api.MaxInt} {
			want := api.OK
			if a < 0 || a >= n {
				want = api.ErrRange
			}
			wantCheck(t, secondCode(code, a, 2, 0, 2, 0, 2, 0), want)
			wantCheck(t, secondCode(2, 0, 2, 0, 2, 0, code, a), want)
		}
	}
	wantCheck(t, with(func(f, _ *api.Func) { f.Code[0] = api.Op{Code: api.OpLoad} }), api.ErrRange)
	wantCheck(t, program(fn(0, nil, 0, api.OpCall, 1)), api.ErrRange)
}

func TestB1TheFirstOne(t *testing.T) {
	ints := []int{api.TypeInt}
	wantCheck(t, program(fn(0, ints, 0, api.OpRet, 0)), api.OK)
	wantCheck(t, program(fn(1, ints, 0, api.OpRet, 0)), api.ErrState)
	wantCheck(t, program(fn(0, nil, api.TypeInt, api.OpRet, 0)), api.ErrState)
	wantCheck(t, program(fn(0, nil, api.TypeRef, api.OpRet, 0)), api.ErrState)
	wantCheck(t, with(func(f, g *api.Func) { *f = fn(1, ints, 1, api.OpRet, 0) }), api.ErrState)
}

// TestB1Order: each function here has what is wrong with the one ahead of it (where both can be), and one thing more, which is named ahead of that, and tells.
func TestB1Order(t *testing.T) {
	bad := func(i int) api.Func {
		f := fn(0, []int{1}, 0, api.OpLoad, 1)
		for _, spoil := range []func(){
			func() { f.Code = append(f.Code, api.Op{Code: 99}) },
			func() { f.Code = nil },
			func() { f.Locals = []int{9} },
			func() { f.Params = -1 },
			func() { f.Locals = make([]int, 7) },
		}[:i] {
			spoil()
		}
		return f
	}
	wants := []api.Errno{api.ErrRange, api.ErrKind, api.ErrNone, api.ErrKind, api.ErrRange, api.ErrMany}
	stateful := fn(1, []int{1}, 1, api.OpRet, 0)
	for i, want := range wants {
		wantCheck(t, program(bad(i)), want)
		wantCheck(t, program(stateful, bad(i)), want)
		for j := range wants {
			wantCheck(t, program(fn(0, nil, 0, api.OpRet, 0), bad(i), bad(j)), want)
		}
	}
	tooLong := fn(0, nil, 0)
	tooLong.Code = slices.Repeat([]api.Op{{Code: 99, A: 99}}, 41)
	wantCheck(t, program(tooLong), api.ErrMany)
	wantCheck(t, program(fn(0, nil, 0, api.OpJump, 9, api.OpRet, 1)), api.ErrForm)
}

func TestB2Encode(t *testing.T) {
	for _, c := range []struct {
		p    api.Program
		want string
	}{
		{square(), squareBytes},
		{program(fn(0, nil, 0, api.OpRet, 0)), "\x01\x00\x00\x00\x00\x01\x0d"},
		{
			program(fn(0, []int{2, 1}, 0, api.OpPush, -1), fn(2, []int{1, 2, 2}, 2, api.OpRet, 0)),
			"\x02" + "\x00\x02\x02\x01\x00\x00\x05\x01\xff\xff\xff\xff" + "\x02\x03\x01\x02\x02\x02\x00\x01\x0d",
		},
		{
			program(api.Func{Code: slices.Repeat([]api.Op{{Code: api.OpPush, A: 1}}, 40)}),
			"\x01\x00\x00\x00\x00\xc8" + strings.Repeat("\x01\x00\x00\x00\x01", 40),
		},
	} {
		if s, e := prog.Encode(c.p); s != c.want || e != api.OK {
			t.Errorf("Encode %v: %x %d, want %x", c.p, s, e, c.want)
		}
		wantDecode(t, c.want, c.p, api.OK)
	}
}

func TestB2DecodeForm(t *testing.T) {
	none := api.Program{}
	for n := range len(squareBytes) {
		wantDecode(t, squareBytes[:n], none, api.ErrForm)
	}
	wantDecode(t, squareBytes+"\x00", none, api.ErrForm)
	wantDecode(t, squareBytes+squareBytes, none, api.ErrForm)
	wantDecode(t, "\x00\x00", none, api.ErrForm)
	for _, s := range []string{
		"\x01\x00\x00\x00\x00\x01\x00",                             // no such code
		"\x01\x00\x00\x00\x00\x01\x16",                             // no such code
		"\x01\x00\x00\x00\x00\x04\x01\x00\x00\x00",                 // code that ends within an op
		"\x01\x00\x00\x00\x00\x04\x01\x00\x00\x00\x00",             // the same, its last byte behind it
		"\x01\x00\x00\x00\x00\x02\x0d",                             // less code than is told
		"\x01\x00\x00\x00\x01\x00\x0d",                             // 256 bytes of code are told
		"\x01\x00\x00\x00\x00\x00\x0d",                             // more code than is told
		"\x01\x00\xff\x01\x00\x00\x01\x0d",                         // fewer locals than are told
		"\x01\x00\x00\x00\x00\x29" + strings.Repeat("\x02", 41),    // too many ops
		"\x01\x09\x00\x00\x00\x01\x00",                             // params are wrong, too
		"\xff\x00\x00\x00\x00\x01\x0d",                             // fewer functions than are told
		"\x01\x00\x00\x00\x01\x00" + strings.Repeat("\x02", 256),   // code of 256 bytes, too many ops
		"\x02\x00\x00\x00\x00\x01\x0d\x00\x00\x00\x00\x01\x0d\x0d", // too many bytes
	} {
		wantDecode(t, s, none, api.ErrForm)
	}
}

func TestB2DecodeTooManyBytes(t *testing.T) {
	none := api.Program{}
	for _, b := range []string{"\x00", "\x01", "\xff"} {
		wantDecode(t, strings.Repeat(b, 2000), none, api.ErrForm)
		wantDecode(t, strings.Repeat(b, 2001), none, api.ErrMany)
	}
	wantDecode(t, strings.Repeat("\x00", 1<<20), none, api.ErrMany)
}

// TestB2DecodeThenCheck: of the right form, but no right program.
func TestB2DecodeThenCheck(t *testing.T) {
	none := api.Program{}
	ret := "\x00\x00\x00\x00\x01\x0d"
	for _, c := range []struct {
		s     string
		errno api.Errno
	}{
		{"\x00", api.ErrNone},
		{"\x06" + strings.Repeat(ret, 6), api.ErrMany},
		{"\xff" + strings.Repeat(ret, 255), api.ErrMany},
		{"\x01\x00\x07" + strings.Repeat("\x01", 7) + "\x00\x00\x01\x0d", api.ErrMany},
		{"\x01\x00\xff" + strings.Repeat("\x01", 255) + "\x00\x00\x01\x0d", api.ErrMany},
		{"\x01\x01\x00\x00\x00\x01\x0d", api.ErrRange},
		{"\x01\xff\x00\x00\x00\x01\x0d", api.ErrRange},
		{"\x01\x00\x01\x00\x00\x00\x01\x0d", api.ErrKind},
		{"\x01\x00\x01\x03\x00\x00\x01\x0d", api.ErrKind},
		{"\x01\x00\x00\x03\x00\x01\x0d", api.ErrKind},
		{"\x01\x00\x00\xff\x00\x01\x0d", api.ErrKind},
		{"\x01\x00\x00\x00\x00\x00", api.ErrNone},
		{"\x01\x00\x00\x00\x00\x05\x0c\x00\x00\x00\x01", api.ErrRange},
		{"\x01\x00\x00\x00\x00\x05\x0a\xff\xff\xff\xff", api.ErrRange},
		{"\x01\x00\x00\x01\x00\x01\x0d", api.ErrState},
		{"\x01\x01\x01\x01\x00\x00\x01\x0d", api.ErrState},
	} {
		wantDecode(t, c.s, none, c.errno)
	}
}

// someProgram that is right.
func someProgram(r *rand.Rand) api.Program {
	p := program(make([]api.Func, 1+r.Intn(5))...)
	for i := range p.Funcs {
		f := &p.Funcs[i]
		f.Locals = make([]int, r.Intn(7))
		for j := range f.Locals {
			f.Locals[j] = 1 + r.Intn(2)
		}
		if i > 0 {
			f.Params, f.Result = r.Intn(len(f.Locals)+1), r.Intn(3)
		}
		f.Code = make([]api.Op, 1+r.Intn(40))
		for j := range f.Code {
			f.Code[j] = someOp(r, len(f.Locals), len(f.Code), len(p.Funcs))
		}
	}
	return p
}

func someOp(r *rand.Rand, locals, places, funcs int) api.Op {
	switch code := 1 + r.Intn(21); code {
	case api.OpPush:
		return api.Op{Code: code, A: int(int32(r.Uint32()))}
	case api.OpLoad, api.OpStore:
		if locals == 0 {
			return api.Op{Code: api.OpPop}
		}
		return api.Op{Code: code, A: r.Intn(locals)}
	case api.OpJump, api.OpZero:
		return api.Op{Code: code, A: r.Intn(places)}
	case api.OpCall:
		return api.Op{Code: code, A: r.Intn(funcs)}
	default:
		return api.Op{Code: code}
	}
}

func TestB3WhatIsEncodedIsDecoded(t *testing.T) {
	r := rand.New(rand.NewSource(1))
	for range 2000 {
		p := someProgram(r)
		wantCheck(t, p, api.OK)
		s, _ := prog.Encode(p)
		wantDecode(t, s, p, api.OK)
	}
}

// TestB3WhatIsDecodedIsEncoded, of bytes that are nearly a program's.
func TestB3WhatIsDecodedIsEncoded(t *testing.T) {
	r, decoded := rand.New(rand.NewSource(2)), 0
	for range 20000 {
		s, _ := prog.Encode(someProgram(r))
		b := []byte(s)
		b[r.Intn(len(b))] = byte(r.Intn(24))
		p, e := prog.Decode(string(b))
		if e != api.OK {
			if p.Funcs != nil {
				t.Fatalf("Decode %x: %v with %d", b, p, e)
			}
			continue
		}
		decoded++
		if s, e := prog.Encode(p); s != string(b) || e != api.OK {
			t.Fatalf("Decode, then Encode of %x: %x %d", b, s, e)
		}
	}
	if decoded < 1000 {
		t.Errorf("only %d were decoded", decoded)
	}
}

// TestP1 hands in what is far from right: that nothing panics, and that with an error nothing else comes.
func TestP1(t *testing.T) {
	r := rand.New(rand.NewSource(3))
	number := func() int { return int(r.Uint64()) >> r.Intn(64) }
	for range 5000 {
		p := someProgram(r)
		f := &p.Funcs[r.Intn(len(p.Funcs))]
		f.Params = number()
		f.Locals = append(f.Locals, number())
		f.Result = number()
		f.Code[r.Intn(len(f.Code))] = api.Op{Code: number(), A: number()}
		if s, e := prog.Encode(p); e != prog.Check(p) || e != api.OK && s != "" {
			t.Fatalf("Encode %v: %x %d", p, s, e)
		}
		b := make([]byte, r.Intn(2100))
		r.Read(b)
		if p, e := prog.Decode(string(b)); e != api.OK && p.Funcs != nil {
			t.Fatalf("Decode %x: %v with %d", b, p, e)
		}
	}
}

// roomy: the list, with spare room of fill behind it.
func roomy[T any](l []T, fill T) []T {
	return append(slices.Clone(l), slices.Repeat([]T{fill}, 8)...)[:len(l)]
}

func TestP2WhatIsHandedInIsOnlyRead(t *testing.T) {
	p := square()
	for i, f := range p.Funcs {
		p.Funcs[i].Locals, p.Funcs[i].Code = roomy(f.Locals, 77), roomy(f.Code, api.Op{Code: 77})
	}
	p.Funcs = roomy(p.Funcs, api.Func{Params: 77})
	all := func() string {
		s := fmt.Sprint(p.Funcs[:cap(p.Funcs)])
		for _, f := range p.Funcs {
			s += fmt.Sprint(f.Locals[:cap(f.Locals)], f.Code[:cap(f.Code)])
		}
		return s
	}
	was := all()
	prog.Check(p)
	s, _ := prog.Encode(p)
	if all() != was {
		t.Errorf("it is %s and was %s", all(), was)
	}
	p.Funcs[1].Code[0] = api.Op{Code: api.OpNull}
	if s != squareBytes {
		t.Errorf("Encode: %x", s)
	}
}

// TestP2AnAnswerIsNewMemory: each list is written over, its spare room too; no other one is to change.
func TestP2AnAnswerIsNewMemory(t *testing.T) {
	p := program(fn(0, []int{1, 2}, 0, api.OpRet, 0), fn(1, []int{1, 2}, 1, api.OpPop, 0, api.OpRet, 0), fn(2, []int{2, 1}, 2, api.OpRet, 0))
	s, _ := prog.Encode(p)
	other, _ := prog.Decode(s)
	for i := range p.Funcs {
		q, _ := prog.Decode(s)
		f := &q.Funcs[i]
		for j := range f.Locals[:cap(f.Locals)] {
			f.Locals[:cap(f.Locals)][j] = 77
		}
		for j := range f.Code[:cap(f.Code)] {
			f.Code[:cap(f.Code)][j] = api.Op{Code: 77}
		}
		want := fmt.Sprint(slices.Delete(slices.Clone(p.Funcs), i, i+1))
		if got := fmt.Sprint(slices.Delete(slices.Clone(q.Funcs), i, i+1)); got != want {
			t.Errorf("a change of function %d's lists is seen in others: %s, want %s", i, got, want)
		}
		if !same(other, p) {
			t.Errorf("a change of one answer is seen in another: %v", other)
		}
	}
}

func TestP3TheSameAgain(t *testing.T) {
	say := func(s string) string {
		p, e := prog.Decode(s)
		u, f := prog.Encode(p)
		return fmt.Sprint(p, e, u, f)
	}
	asked := []string{"", squareBytes, "\x00", squareBytes[:9], "\x01\x00\x00\x00\x00\x01\x0d", strings.Repeat("\x01", 2001)}
	var first []string
	for _, s := range asked {
		first = append(first, say(s))
	}
	for i, s := range slices.Backward(asked) {
		if got := say(s); got != first[i] {
			t.Errorf("%x: %s, and %s at first", s, got, first[i])
		}
	}
}
