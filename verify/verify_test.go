package verify_test

import (
	"fmt"
	"math"
	"slices"
	"strings"
	"testing"

	"mizzen/api"
	"mizzen/verify"
)

// Types, in short.
const (
	i = api.TypeInt
	r = api.TypeRef
	n = api.TypeNull
)

// fn: a function; its code is told by codes and As in turn.
func fn(params int, locals []int, result int, l ...int) api.Func {
	f := api.Func{Params: params, Locals: locals, Result: result}
	for c := range slices.Chunk(l, 2) {
		f.Code = append(f.Code, api.Op{Code: c[0], A: c[1]})
	}
	return f
}

func program(l ...api.Func) api.Program { return api.Program{Funcs: l} }

// code of a program's one function, whose locals are a number and a block.
func code(l ...int) api.Program { return program(fn(0, []int{i, r}, 0, l...)) }

// told: entries as text.
func told(l []api.Entry) string {
	var out []string
	for _, e := range l {
		out = append(out, fmt.Sprint(e.Pc, e.Stack))
	}
	return strings.Join(out, " ")
}

// wantFits: function f fits, with these entries.
func wantFits(t *testing.T, p api.Program, f int, want string) {
	t.Helper()
	if l, e := verify.Func(p, f); e != api.OK || told(l) != want {
		t.Errorf("Func %v %d: %s %d, want %s", p, f, told(l), e, want)
	}
}

// wantNot: function f does not fit.
func wantNot(t *testing.T, p api.Program, f int) {
	t.Helper()
	if l, e := verify.Func(p, f); e != api.ErrState || len(l) > 0 {
		t.Errorf("Func %v %d: %s %d, want %d", p, f, told(l), e, api.ErrState)
	}
	if e := verify.Program(p); e != api.ErrState {
		t.Errorf("Program %v: %d", p, e)
	}
}

func wantProgram(t *testing.T, p api.Program, want api.Errno) {
	t.Helper()
	if e := verify.Program(p); e != want {
		t.Errorf("Program %v: %d, want %d", p, e, want)
	}
}

func wantJoin(t *testing.T, a, b, want []int, errno api.Errno) {
	t.Helper()
	for range 2 {
		if l, e := verify.Join(a, b); e != errno || !slices.Equal(l, want) {
			t.Errorf("Join %v %v: %v %d, want %v %d", a, b, l, e, want, errno)
		}
		a, b = b, a
	}
}

func TestD1JoinOfTypes(t *testing.T) {
	l := func(l ...int) []int { return l }
	wantJoin(t, l(i), l(i), l(i), api.OK)
	wantJoin(t, l(r), l(r), l(r), api.OK)
	wantJoin(t, l(n), l(n), l(n), api.OK)
	wantJoin(t, l(n), l(r), l(r), api.OK)
	wantJoin(t, l(i), l(r), nil, api.ErrState)
	wantJoin(t, l(i), l(n), nil, api.ErrState)
	wantJoin(t, nil, nil, nil, api.OK)
	wantJoin(t, nil, []int{}, nil, api.OK)
	wantJoin(t, l(i, n, r, n), l(i, r, n, n), l(i, r, r, n), api.OK)
	wantJoin(t, l(i, n, r, n), l(i, r, n, i), nil, api.ErrState)
	wantJoin(t, l(i, n, r, n), l(n, r, n, n), nil, api.ErrState)
	wantJoin(t, l(i, r), l(r, i), nil, api.ErrState)
}

func TestD1JoinOfMany(t *testing.T) {
	for a := range 12 {
		for b := range 12 {
			want, errno := slices.Repeat([]int{r}, a), api.OK
			if a > 8 || b > 8 {
				want, errno = nil, api.ErrMany
			} else if a != b {
				want, errno = nil, api.ErrState
			}
			wantJoin(t, slices.Repeat([]int{r}, a), slices.Repeat([]int{n}, b), want, errno)
		}
	}
	wantJoin(t, slices.Repeat([]int{i}, 8), slices.Repeat([]int{r}, 8), nil, api.ErrState)
	wantJoin(t, slices.Repeat([]int{i}, 9), slices.Repeat([]int{r}, 9), nil, api.ErrMany)
}

// TestD1JoinOfNoTypes: this is told ahead of all else.
func TestD1JoinOfNoTypes(t *testing.T) {
	for _, x := range []int{math.MinInt, -1, 0, 4, 5, 256 + i, 1<<32 + i, math.MaxInt} {
		wantJoin(t, []int{x}, []int{x}, nil, api.ErrKind)
		for _, other := range [][]int{nil, {i}, {r, n}, slices.Repeat([]int{i}, 8), slices.Repeat([]int{i}, 9)} {
			wantJoin(t, []int{x}, other, nil, api.ErrKind)
			wantJoin(t, []int{i, x}, other, nil, api.ErrKind)
			wantJoin(t, append(slices.Repeat([]int{i}, 8), x), other, nil, api.ErrKind)
			wantJoin(t, append([]int{x}, slices.Repeat([]int{i}, 8)...), other, nil, api.ErrKind)
		}
	}
}

// rules of ops, as package api tells them: what each takes, and leaves; x and y are whatever is there. Function 1 has params Int, Ref and a result, function 2 neither.
var rules = []struct {
	o            api.Op
	takes, leave string
}{
	{api.Op{Code: api.OpPush, A: 5}, "", "i"},
	{api.Op{Code: api.OpPop}, "x", ""},
	{api.Op{Code: api.OpDup}, "x", "xx"},
	{api.Op{Code: api.OpSwap}, "xy", "yx"},
	{api.Op{Code: api.OpAdd}, "ii", "i"},
	{api.Op{Code: api.OpSub}, "ii", "i"},
	{api.Op{Code: api.OpMul}, "ii", "i"},
	{api.Op{Code: api.OpLoad, A: 0}, "", "i"},
	{api.Op{Code: api.OpLoad, A: 1}, "", "r"},
	{api.Op{Code: api.OpStore, A: 0}, "i", ""},
	{api.Op{Code: api.OpStore, A: 1}, "r", ""},
	{api.Op{Code: api.OpCall, A: 1}, "ir", "r"},
	{api.Op{Code: api.OpCall, A: 2}, "", ""},
	{api.Op{Code: api.OpCall, A: 3}, "rrii", "i"},
	{api.Op{Code: api.OpNew}, "i", "r"},
	{api.Op{Code: api.OpGet}, "ri", "i"},
	{api.Op{Code: api.OpSet}, "rii", ""},
	{api.Op{Code: api.OpLen}, "r", "i"},
	{api.Op{Code: api.OpNull}, "", "n"},
	{api.Op{Code: api.OpIsNull}, "r", "i"},
	{api.Op{Code: api.OpSend}, "i", ""},
	{api.Op{Code: api.OpRecv}, "", "i"},
}

// ruled: what is left of a stack by a rule of these letters; false, if it does not have what is taken.
func ruled(stack, takes, leaves string) (string, bool) {
	if len(stack) < len(takes) {
		return "", false
	}
	rest, top := stack[:len(stack)-len(takes)], stack[len(stack)-len(takes):]
	for k, want := range takes {
		got := rune(top[k])
		if want == 'x' || want == 'y' {
			leaves = strings.ReplaceAll(leaves, string(want), strings.ToUpper(string(got)))
		} else if got != want && (got != 'n' || want != 'r') {
			return "", false
		}
	}
	return rest + strings.ToLower(leaves), true
}

func typesOf(letters string) []int {
	l := []int{}
	for _, c := range letters {
		l = append(l, strings.IndexRune("irn", c)+1)
	}
	return l
}

// lettersUpTo: all stacks of at most so many places.
func lettersUpTo(many int) []string {
	all := []string{""}
	for k := 0; len(all[k]) < many; k++ {
		all = append(all, all[k]+"i", all[k]+"r", all[k]+"n")
	}
	return all
}

// withStack: a program whose first function puts a stack, does an op at place len(stack), and waits for ever.
func withStack(stack string, o api.Op) api.Program {
	var put []int
	for _, c := range stack {
		switch c {
		case 'i':
			put = append(put, api.OpPush, 0)
		case 'r':
			put = append(put, api.OpLoad, 1)
		case 'n':
			put = append(put, api.OpNull, 0)
		}
	}
	put = append(put, o.Code, o.A, api.OpJump, len(stack)+1)
	return program(
		fn(0, []int{i, r}, 0, put...),
		fn(2, []int{i, r, i}, r, api.OpNull, 0, api.OpRet, 0),
		fn(0, []int{r, r}, 0, api.OpRet, 0),
		fn(4, []int{r, r, i, i}, i, api.OpPush, 1, api.OpRet, 0),
	)
}

func TestD2WhatEachOpTakesAndLeaves(t *testing.T) {
	for _, rule := range rules {
		for _, stack := range lettersUpTo(4) {
			p := withStack(stack, rule.o)
			left, ok := ruled(stack, rule.takes, rule.leave)
			if !ok {
				wantNot(t, p, 0)
				continue
			}
			l, e := verify.Func(p, 0)
			if e != api.OK || len(l) != len(stack)+2 {
				t.Errorf("%v at %s: %s %d", rule.o, stack, told(l), e)
				continue
			}
			if at, behind := l[len(stack)], l[len(stack)+1]; !slices.Equal(at.Stack, typesOf(stack)) || !slices.Equal(behind.Stack, typesOf(left)) {
				t.Errorf("%v at %s: %s", rule.o, stack, told(l))
			}
		}
	}
}

// TestD2Zero, which goes on at two places, with the same stack.
func TestD2Zero(t *testing.T) {
	for _, stack := range lettersUpTo(3) {
		p := withStack(stack, api.Op{Code: api.OpZero, A: len(stack) + 1})
		if left, ok := ruled(stack, "i", ""); ok {
			l, e := verify.Func(p, 0)
			if e != api.OK || !slices.Equal(l[len(l)-1].Stack, typesOf(left)) {
				t.Errorf("zero at %s: %s %d", stack, told(l), e)
			}
			continue
		}
		wantNot(t, p, 0)
	}
	wantFits(t, code(api.OpNull, 0, api.OpRecv, 0, api.OpZero, 4, api.OpJump, 3, api.OpPop, 0, api.OpRet, 0), 0, "0 [] 1 [3] 2 [3 1] 3 [3] 4 [3] 5 []")
}

// TestD2Ret: the result, and nothing else.
func TestD2Ret(t *testing.T) {
	for result, takes := range []string{"", "i", "r"} {
		for _, stack := range lettersUpTo(3) {
			p := withStack(stack, api.Op{Code: api.OpRet})
			p.Funcs[2], p.Funcs[0] = p.Funcs[0], p.Funcs[2]
			p.Funcs[2].Result = result
			if left, ok := ruled(stack, takes, ""); ok && left == "" {
				l, e := verify.Func(p, 2)
				if e != api.OK || len(l) != len(stack)+1 || !slices.Equal(l[len(stack)].Stack, typesOf(stack)) {
					t.Errorf("ret of %d at %s: %s %d", result, stack, told(l), e)
				}
				continue
			}
			wantNot(t, p, 2)
		}
	}
}

// TestD2HowMany: eight on the stack are not too many, nine are, whichever op leaves them.
func TestD2HowMany(t *testing.T) {
	for _, rule := range rules {
		for _, stack := range []string{"iiiiiiii", "iiiiiiiii", "rrrrrrii", "rrrrrrir", "rrrrrrrr", "iiiirii", "iiiiiii", "rrrrrrr", "iiiirrii"} {
			left, ok := ruled(stack, rule.takes, rule.leave)
			p := withStack(stack, rule.o)
			if !ok || len(left) > 8 || len(stack) > 8 {
				wantNot(t, p, 0)
				continue
			}
			if l, e := verify.Func(p, 0); e != api.OK || !slices.Equal(l[len(l)-1].Stack, typesOf(left)) {
				t.Errorf("%v at %s: %s %d", rule.o, stack, told(l), e)
			}
		}
	}
}

// TestD2TheEnd may not be come to; ops that may not be come to do not matter, and have no entries.
func TestD2TheEnd(t *testing.T) {
	wantNot(t, code(api.OpPush, 1), 0)
	wantNot(t, code(api.OpRecv, 0, api.OpPop, 0), 0)
	wantNot(t, code(api.OpRecv, 0, api.OpZero, 0), 0)
	wantNot(t, code(api.OpJump, 2, api.OpRet, 0, api.OpCall, 0), 0)
	wantFits(t, code(api.OpRet, 0, api.OpPop, 0), 0, "0 []")
	wantFits(t, code(api.OpJump, 2, api.OpPop, 0, api.OpRet, 0), 0, "0 [] 2 []")
	wantFits(t, code(api.OpJump, 0), 0, "0 []")
	wantFits(t, code(api.OpJump, 3, api.OpAdd, 0, api.OpJump, 1, api.OpJump, 0, api.OpSet, 0), 0, "0 [] 3 []")
}

// TestD2PlaceZero has nothing on the stack, whichever way it is come to again.
func TestD2PlaceZero(t *testing.T) {
	wantNot(t, code(api.OpPush, 1, api.OpJump, 0), 0)
	wantNot(t, code(api.OpPop, 0, api.OpPush, 1, api.OpJump, 0), 0)
	wantNot(t, code(api.OpNull, 0, api.OpRecv, 0, api.OpZero, 0, api.OpPop, 0, api.OpRet, 0), 0)
	wantFits(t, code(api.OpRecv, 0, api.OpZero, 0, api.OpRet, 0), 0, "0 [] 1 [1] 2 []")
	wantFits(t, code(api.OpPush, 1, api.OpSend, 0, api.OpJump, 0), 0, "0 [] 1 [1] 2 []")
}

func TestD2WaysThatMeet(t *testing.T) {
	// Null on one way, Ref or Int on the other, whichever is gone first.
	meet := func(l ...int) api.Program {
		return code(append([]int{api.OpRecv, 0, api.OpZero, 4}, append(l, api.OpPop, 0, api.OpRet, 0)...)...)
	}
	wantFits(t, meet(api.OpNull, 0, api.OpJump, 5, api.OpLoad, 1), 0, "0 [] 1 [1] 2 [] 3 [3] 4 [] 5 [2] 6 []")
	wantFits(t, meet(api.OpLoad, 1, api.OpJump, 5, api.OpNull, 0), 0, "0 [] 1 [1] 2 [] 3 [2] 4 [] 5 [2] 6 []")
	wantFits(t, meet(api.OpNull, 0, api.OpJump, 5, api.OpNull, 0), 0, "0 [] 1 [1] 2 [] 3 [3] 4 [] 5 [3] 6 []")
	wantFits(t, meet(api.OpPush, 1, api.OpJump, 5, api.OpRecv, 0), 0, "0 [] 1 [1] 2 [] 3 [1] 4 [] 5 [1] 6 []")
	wantNot(t, meet(api.OpNull, 0, api.OpJump, 5, api.OpPush, 1), 0)
	wantNot(t, meet(api.OpPush, 1, api.OpJump, 5, api.OpLoad, 1), 0)
	wantNot(t, meet(api.OpPush, 1, api.OpJump, 5, api.OpCall, 0), 0)
	wantNot(t, meet(api.OpCall, 0, api.OpJump, 5, api.OpPush, 1), 0)
}

// TestD2WaysThatComeBack: what was TypeNull when a place was first come to turns to TypeRef, and so does what hangs on it, and nothing else.
func TestD2WaysThatComeBack(t *testing.T) {
	wantFits(t, code(
		api.OpNull, 0,
		api.OpRecv, 0, // 1
		api.OpZero, 6,
		api.OpPop, 0,
		api.OpLoad, 1,
		api.OpJump, 1,
		api.OpDup, 0, // 6
		api.OpIsNull, 0,
		api.OpSend, 0,
		api.OpPop, 0,
		api.OpRet, 0,
	), 0, "0 [] 1 [2] 2 [2 1] 3 [2] 4 [] 5 [2] 6 [2] 7 [2 2] 8 [2 1] 9 [2] 10 []")
	// Two of three places turn, one at each time round, since what is on top goes below.
	wantFits(t, code(
		api.OpNull, 0,
		api.OpNull, 0,
		api.OpNull, 0,
		api.OpRecv, 0, // 3
		api.OpZero, 8,
		api.OpPop, 0,
		api.OpLoad, 1,
		api.OpSwap, 0,
		api.OpJump, 3, // 8
	), 0, "0 [] 1 [3] 2 [3 3] 3 [3 2 2] 4 [3 2 2 1] 5 [3 2 2] 6 [3 2] 7 [3 2 2] 8 [3 2 2]")
	wantNot(t, code(api.OpRecv, 0, api.OpPush, 1, api.OpJump, 1), 0)
	wantNot(t, code(api.OpNull, 0, api.OpPop, 0, api.OpPush, 1, api.OpJump, 1), 0)
	wantFits(t, code(api.OpRecv, 0, api.OpPop, 0, api.OpNull, 0, api.OpPop, 0, api.OpJump, 0), 0, "0 [] 1 [1] 2 [] 3 [3] 4 []")
}

// TestD2Calls: a function is called by what it says of itself; that its own code does not fit is told of it, and of the program.
func TestD2Calls(t *testing.T) {
	p := program(
		fn(0, nil, 0, api.OpNull, 0, api.OpPush, 1, api.OpCall, 1, api.OpSend, 0, api.OpRet, 0),
		fn(2, []int{r, i, r}, i, api.OpPop, 0, api.OpRet, 0),
	)
	wantFits(t, p, 0, "0 [] 1 [3] 2 [3 1] 3 [1] 4 []")
	wantNot(t, p, 1)
	p.Funcs[1].Code = []api.Op{{Code: api.OpLoad, A: 1}, {Code: api.OpRet}}
	wantFits(t, p, 0, "0 [] 1 [3] 2 [3 1] 3 [1] 4 []")
	wantFits(t, p, 1, "0 [] 1 [1]")
	wantProgram(t, p, api.OK)
	p.Funcs[0].Code[0] = api.Op{Code: api.OpPush}
	wantNot(t, p, 0)
	wantFits(t, p, 1, "0 [] 1 [1]")
}

// TestD2Program: whichever function it is that does not fit.
func TestD2Program(t *testing.T) {
	ret := fn(0, nil, 0, api.OpRet, 0)
	for many := 1; many <= 5; many++ {
		p := program(slices.Repeat([]api.Func{ret}, many)...)
		wantProgram(t, p, api.OK)
		for f := range many {
			p.Funcs[f] = fn(0, nil, 0, api.OpPop, 0, api.OpRet, 0)
			wantProgram(t, p, api.ErrState)
			p.Funcs[f] = ret
		}
	}
}

// TestD2TheDocumentsExample programs.
func TestD2TheDocumentsExample(t *testing.T) {
	square := program(
		fn(0, nil, 0, api.OpRecv, 0, api.OpCall, 1, api.OpSend, 0, api.OpJump, 0),
		fn(1, []int{i}, i, api.OpLoad, 0, api.OpDup, 0, api.OpMul, 0, api.OpRet, 0),
	)
	wantFits(t, square, 0, "0 [] 1 [1] 2 [1] 3 []")
	wantFits(t, square, 1, "0 [] 1 [1] 2 [1 1] 3 [1]")
	wantProgram(t, square, api.OK)
	wantNot(t, code(api.OpPop, 0, api.OpRet, 0), 0)
	wantProgram(t, code(api.OpNull, 0, api.OpPush, 0, api.OpGet, 0, api.OpSend, 0, api.OpRet, 0), api.OK)
}

// TestD2Errors: what chapter 2 says, of whichever function, ahead of a function that is none, and that ahead of what does not fit.
func TestD2Errors(t *testing.T) {
	good, misfit := fn(0, nil, 0, api.OpRet, 0), fn(0, nil, 0, api.OpPop, 0)
	for _, c := range []struct {
		p     api.Program
		errno api.Errno
	}{
		{api.Program{}, api.ErrNone},
		{program(slices.Repeat([]api.Func{good}, 6)...), api.ErrMany},
		{program(misfit, fn(0, make([]int, 7), 0, api.OpRet, 0)), api.ErrMany},
		{program(good, fn(1, nil, 0, api.OpRet, 0)), api.ErrRange},
		{program(misfit, fn(0, []int{n}, 0, api.OpRet, 0)), api.ErrKind},
		{program(good, fn(0, nil, n, api.OpRet, 0)), api.ErrKind},
		{program(misfit, fn(0, nil, 0)), api.ErrNone},
		{program(good, fn(0, nil, 0, api.OpRet, 1)), api.ErrForm},
		{program(misfit, fn(0, nil, 0, api.OpJump, 1)), api.ErrRange},
		{program(fn(0, nil, i, api.OpPush, 1, api.OpRet, 0), misfit), api.ErrState},
	} {
		wantProgram(t, c.p, c.errno)
		for _, f := range []int{math.MinInt, -1, 0, 1, 2, 5, 6, math.MaxInt} {
			if l, e := verify.Func(c.p, f); e != c.errno || len(l) > 0 {
				t.Errorf("Func %v %d: %s %d, want %d", c.p, f, told(l), e, c.errno)
			}
		}
	}
	for _, f := range []int{math.MinInt, -1 << 32, -1, 2, 3, 5, 1 << 32, math.MaxInt} {
		if l, e := verify.Func(program(misfit, good), f); e != api.ErrRange || len(l) > 0 {
			t.Errorf("Func %d: %s %d", f, told(l), e)
		}
	}
}

// roomy: the list, with spare room of fill behind it.
func roomy[T any](l []T, fill T) []T {
	return append(slices.Clone(l), slices.Repeat([]T{fill}, 8)...)[:len(l)]
}

func TestP2WhatIsHandedInIsOnlyRead(t *testing.T) {
	p := withStack("ir", api.Op{Code: api.OpCall, A: 1})
	for k, f := range p.Funcs {
		p.Funcs[k].Locals, p.Funcs[k].Code = roomy(f.Locals, 77), roomy(f.Code, api.Op{Code: 77})
	}
	p.Funcs = roomy(p.Funcs, api.Func{Params: 77})
	a, b := roomy([]int{i, n, r}, 77), roomy([]int{i, r, n}, 77)
	all := func() string {
		s := fmt.Sprint(p.Funcs[:cap(p.Funcs)], a[:cap(a)], b[:cap(b)])
		for _, f := range p.Funcs {
			s += fmt.Sprint(f.Locals[:cap(f.Locals)], f.Code[:cap(f.Code)])
		}
		return s
	}
	was := all()
	verify.Join(a, b)
	verify.Join(a, a)
	verify.Program(p)
	for f := range p.Funcs {
		verify.Func(p, f)
	}
	if all() != was {
		t.Errorf("it is %s and was %s", all(), was)
	}
}

// spoil a list, its spare room too.
func spoil(l []int) {
	for k := range l[:cap(l)] {
		l[:cap(l)][k] = 77
	}
}

// TestP2AnAnswerIsNewMemory: each list is written over, its spare room too; no other one is to change.
func TestP2AnAnswerIsNewMemory(t *testing.T) {
	p := code(api.OpNull, 0, api.OpRecv, 0, api.OpZero, 5, api.OpPop, 0, api.OpRet, 0, api.OpJump, 6, api.OpPop, 0, api.OpRet, 0)
	const want = "0 [] 1 [3] 2 [3 1] 3 [3] 4 [] 5 [3] 6 [3] 7 []"
	wantFits(t, p, 0, want)
	for k := range 8 {
		l, _ := verify.Func(p, 0)
		was := told(slices.Delete(slices.Clone(l), k, k+1))
		spoil(l[k].Stack)
		if got := told(slices.Delete(slices.Clone(l), k, k+1)); got != was {
			t.Errorf("a change of entry %d is seen in others: %s, was %s", k, got, was)
		}
		wantFits(t, p, 0, want)
	}
	a, b := []int{i, r, n}, []int{i, r, r}
	for range 2 {
		l, _ := verify.Join(a, b)
		same, _ := verify.Join(a, a)
		spoil(l)
		spoil(same)
	}
	wantJoin(t, a, b, []int{1, 2, 2}, api.OK)
}

func TestP3TheSameAgain(t *testing.T) {
	say := func(p api.Program) string {
		l, e := verify.Func(p, 0)
		return fmt.Sprint(told(l), e, verify.Program(p))
	}
	asked := []api.Program{{}, code(api.OpRet, 0), code(api.OpPop, 0), withStack("ir", api.Op{Code: api.OpCall, A: 1}), code(99, 0), code(api.OpNull, 0, api.OpJump, 1)}
	var first []string
	for _, p := range asked {
		first = append(first, say(p))
	}
	for k, p := range slices.Backward(asked) {
		if got := say(p); got != first[k] {
			t.Errorf("%v: %s, and %s at first", p, got, first[k])
		}
	}
}
