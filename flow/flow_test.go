package flow_test

import (
	"fmt"
	"math"
	"math/rand"
	"slices"
	"testing"

	"mizzen/api"
	"mizzen/flow"
)

// Codes of ops behind which it goes on at the next place, and nowhere else, written out so that a slip in the package is seen.
var straight = []int{1, 2, 3, 4, 5, 6, 7, 8, 9, 12, 14, 15, 16, 17, 18, 19, 20, 21}

// ops are told by codes and As in turn.
func ops(l ...int) []api.Op {
	var code []api.Op
	for c := range slices.Chunk(l, 2) {
		code = append(code, api.Op{Code: c[0], A: c[1]})
	}
	return code
}

func want(t *testing.T, what string, got []int, errno api.Errno, l ...int) {
	t.Helper()
	if errno != api.OK || !slices.Equal(got, l) {
		t.Errorf("%s: %v %d, want %v", what, got, errno, l)
	}
}

func wantNext(t *testing.T, code []api.Op, pc int, l ...int) {
	t.Helper()
	got, errno := flow.Next(code, pc)
	want(t, fmt.Sprint("Next ", code, pc), got, errno, l...)
}

func wantReach(t *testing.T, code []api.Op, l ...int) {
	t.Helper()
	got, errno := flow.Reach(code)
	want(t, fmt.Sprint("Reach ", code), got, errno, l...)
}

func wantBack(t *testing.T, code []api.Op, pc int, l ...int) {
	t.Helper()
	got, errno := flow.Back(code, pc)
	want(t, fmt.Sprint("Back ", code, pc), got, errno, l...)
}

// wantErrors: all three calls have it, wherever they are asked of, and answer nothing else.
func wantErrors(t *testing.T, code []api.Op, errno api.Errno) {
	t.Helper()
	if l, e := flow.Reach(code); e != errno || len(l) > 0 {
		t.Errorf("Reach %v: %v %d, want %d", code, l, e, errno)
	}
	for _, pc := range []int{math.MinInt, -1, 0, 1, len(code), math.MaxInt} {
		if l, e := flow.Next(code, pc); e != errno || len(l) > 0 {
			t.Errorf("Next %v %d: %v %d, want %d", code, pc, l, e, errno)
		}
		if l, e := flow.Back(code, pc); e != errno || len(l) > 0 {
			t.Errorf("Back %v %d: %v %d, want %d", code, pc, l, e, errno)
		}
	}
}

func TestC1NextOfOpsThatGoStraightOn(t *testing.T) {
	for _, c := range straight {
		code := ops(c, 0, c, 0, c, 0)
		for pc := range 3 {
			wantNext(t, code, pc, pc+1)
		}
		wantReach(t, code, 0, 1, 2, 3)
		wantBack(t, code, 0)
		for pc := 1; pc <= 3; pc++ {
			wantBack(t, code, pc, pc-1)
		}
	}
	for _, c := range []int{api.OpPush, api.OpLoad, api.OpStore, api.OpCall} {
		for _, a := range []int{api.MinInt, -1, 2, 99, api.MaxInt} { // no place, and none is asked for
			wantNext(t, ops(c, a), 0, 1)
		}
	}
}

func TestC1NextOfRetAndJump(t *testing.T) {
	for pc := range 4 {
		code := ops(api.OpPop, 0, api.OpPop, 0, api.OpPop, 0, api.OpPop, 0)
		code[pc] = api.Op{Code: api.OpRet}
		wantNext(t, code, pc)
		for a := range 4 {
			code[pc] = api.Op{Code: api.OpJump, A: a}
			wantNext(t, code, pc, a)
		}
	}
}

// TestC1NextOfZero: A behind the next place, at it (which is told once), and ahead of it.
func TestC1NextOfZero(t *testing.T) {
	code := func(a int) []api.Op { return ops(api.OpPop, 0, api.OpZero, a, api.OpPop, 0, api.OpZero, a) }
	wantNext(t, code(0), 1, 0, 2)
	wantNext(t, code(1), 1, 1, 2)
	wantNext(t, code(2), 1, 2)
	wantNext(t, code(3), 1, 2, 3)
	for a := range 4 {
		wantNext(t, code(a), 3, a, 4)
	}
	wantNext(t, ops(api.OpZero, 0), 0, 0, 1)
}

func TestC1Reach(t *testing.T) {
	wantReach(t, ops(api.OpRet, 0), 0)
	wantReach(t, ops(api.OpPop, 0), 0, 1)
	wantReach(t, ops(api.OpJump, 0), 0)
	wantReach(t, ops(api.OpZero, 0), 0, 1)
	wantReach(t, ops(api.OpRet, 0, api.OpPop, 0), 0)
	wantReach(t, ops(api.OpJump, 2, api.OpPop, 0, api.OpRet, 0), 0, 2)
	wantReach(t, ops(api.OpJump, 3, api.OpPop, 0, api.OpRet, 0, api.OpJump, 1), 0, 1, 2, 3)
	wantReach(t, ops(api.OpZero, 3, api.OpRet, 0, api.OpPop, 0, api.OpZero, 5, api.OpRet, 0, api.OpJump, 0), 0, 1, 3, 4, 5)
	wantReach(t, ops(api.OpZero, 2, api.OpJump, 1, api.OpJump, 2, api.OpPop, 0), 0, 1, 2)
	wantReach(t, ops(api.OpJump, 2, api.OpRet, 0, api.OpJump, 3, api.OpPop, 0), 0, 2, 3, 4)
}

// TestC1Back: it may come from a place, too, that itself may not be come to.
func TestC1Back(t *testing.T) {
	code := ops(api.OpJump, 2, api.OpPop, 0, api.OpZero, 2, api.OpRet, 0, api.OpZero, 0, api.OpZero, 2)
	wantBack(t, code, 0, 4)
	wantBack(t, code, 1)
	wantBack(t, code, 2, 0, 1, 2, 5)
	wantBack(t, code, 3, 2)
	wantBack(t, code, 4)
	wantBack(t, code, 5, 4)
	wantBack(t, code, 6, 5)
	wantBack(t, ops(api.OpRet, 0), 1)
	wantBack(t, ops(api.OpZero, 1, api.OpRet, 0), 1, 0)
	wantBack(t, ops(api.OpJump, 0), 0, 0)
}

func TestC1PlacesThatAreNone(t *testing.T) {
	for _, code := range [][]api.Op{ops(api.OpRet, 0), ops(api.OpZero, 1, api.OpPop, 0), slices.Repeat(ops(api.OpPop, 0), 40)} {
		n := len(code)
		for _, pc := range []int{math.MinInt, -1 << 32, -n - 1, -n, -1, n, n + 1, 1 << 32, math.MaxInt} {
			if l, e := flow.Next(code, pc); e != api.ErrRange || len(l) > 0 {
				t.Errorf("Next %v %d: %v %d", code, pc, l, e)
			}
			if l, e := flow.Back(code, pc); pc != n && (e != api.ErrRange || len(l) > 0) {
				t.Errorf("Back %v %d: %v %d", code, pc, l, e)
			}
		}
		if l, e := flow.Back(code, n); e != api.OK {
			t.Errorf("Back %v of the end: %v %d", code, l, e)
		}
	}
}

func TestC1Errors(t *testing.T) {
	wantErrors(t, nil, api.ErrNone)
	wantErrors(t, []api.Op{}, api.ErrNone)
	wantErrors(t, ops(0, 0), api.ErrKind)
	wantErrors(t, ops(api.OpRet, 0, 22, 0), api.ErrKind)
	wantErrors(t, ops(api.OpRet, 0, api.OpPop, 1), api.ErrForm)
	wantErrors(t, ops(api.OpPush, api.MaxInt+1), api.ErrRange)
	wantErrors(t, slices.Repeat(ops(api.OpPop, 0), 41), api.ErrMany)
	wantReach(t, slices.Repeat(ops(api.OpJump, 0), 40), 0)
	for _, c := range []int{api.OpJump, api.OpZero} {
		for _, a := range []int{api.MinInt, -1, 2, 3, api.MaxInt} {
			wantErrors(t, ops(api.OpRet, 0, c, a), api.ErrRange)
			wantErrors(t, ops(c, a, api.OpRet, 0), api.ErrRange)
		}
	}
}

// TestC1Order: what chapter 1 says is told ahead of a place that is none.
func TestC1Order(t *testing.T) {
	wantErrors(t, ops(api.OpJump, 9, 22, 0), api.ErrKind)
	wantErrors(t, ops(api.OpZero, 9, api.OpRet, 1), api.ErrForm)
	wantErrors(t, slices.Repeat(ops(99, 99), 41), api.ErrMany)
}

// someCode that is right, most of it ops that go somewhere.
func someCode(r *rand.Rand) []api.Op {
	code := make([]api.Op, 1+r.Intn(40))
	for i := range code {
		switch r.Intn(6) {
		case 0:
			code[i].Code = api.OpRet
		case 1, 2:
			code[i] = api.Op{Code: api.OpJump, A: r.Intn(len(code))}
		case 3, 4:
			code[i] = api.Op{Code: api.OpZero, A: r.Intn(len(code))}
		default:
			code[i].Code = straight[r.Intn(len(straight))]
		}
	}
	return code
}

// grown: what may be come to, worked out the slow way, by adding whatever something goes on at until nothing is new.
func grown(code []api.Op) []int {
	l := []int{0}
	for i := 0; i < len(l); i++ {
		if l[i] == len(code) {
			continue
		}
		next, _ := flow.Next(code, l[i])
		for _, pc := range next {
			if !slices.Contains(l, pc) {
				l = append(l, pc)
			}
		}
	}
	slices.Sort(l)
	return l
}

func TestC2(t *testing.T) {
	r := rand.New(rand.NewSource(1))
	for range 3000 {
		code := someCode(r)
		reach, errno := flow.Reach(code)
		want(t, fmt.Sprint("Reach ", code), reach, errno, grown(code)...)
		for _, pc := range reach {
			back, _ := flow.Back(code, pc)
			comes := slices.ContainsFunc(back, func(from int) bool { return slices.Contains(reach, from) })
			if pc != 0 && !comes {
				t.Fatalf("%v: nothing that may be come to goes on at %d", code, pc)
			}
		}
	}
}

func TestC1BackIsNextTurnedRound(t *testing.T) {
	r := rand.New(rand.NewSource(2))
	for range 1000 {
		code := someCode(r)
		for pc := range len(code) + 1 {
			var from []int
			for i := range code {
				if next, _ := flow.Next(code, i); slices.Contains(next, pc) {
					from = append(from, i)
				}
			}
			wantBack(t, code, pc, from...)
		}
	}
}

// TestP1 hands in what is far from right: that nothing panics, and that with an error nothing else comes.
func TestP1(t *testing.T) {
	r := rand.New(rand.NewSource(3))
	number := func() int { return int(r.Uint64()) >> r.Intn(64) }
	for range 5000 {
		code := someCode(r)
		for range r.Intn(3) {
			code[r.Intn(len(code))] = api.Op{Code: number(), A: number()}
		}
		pc := number()
		a, e := flow.Next(code, pc)
		b, f := flow.Back(code, pc)
		c, g := flow.Reach(code)
		if e != api.OK && len(a) > 0 || f != api.OK && len(b) > 0 || g != api.OK && len(c) > 0 {
			t.Fatalf("%v %d: %v %d, %v %d, %v %d", code, pc, a, e, b, f, c, g)
		}
	}
}

func TestP2WhatIsHandedInIsOnlyRead(t *testing.T) {
	spare := ops(77, 77, 77, 77)
	code := ops(api.OpZero, 2, api.OpJump, 0, api.OpPop, 0)
	all := append(slices.Clone(code), spare...)
	roomy := all[:len(code)]
	flow.Reach(roomy)
	for pc := range len(code) + 1 {
		flow.Next(roomy, pc)
		flow.Back(roomy, pc)
	}
	if !slices.Equal(all, append(code, spare...)) {
		t.Errorf("it is %v", all)
	}
}

// TestP2AnAnswerIsNewMemory: each answer is written over, its spare room too; the next one is as the first was.
func TestP2AnAnswerIsNewMemory(t *testing.T) {
	code := ops(api.OpZero, 2, api.OpJump, 0, api.OpZero, 0)
	for range 3 {
		reach, _ := flow.Reach(code)
		next, _ := flow.Next(code, 0)
		back, _ := flow.Back(code, 0)
		if fmt.Sprint(reach, next, back) != "[0 1 2 3] [1 2] [1 2]" {
			t.Errorf("it is %v %v %v", reach, next, back)
		}
		for _, l := range [][]int{reach, next, back} {
			for i := range l[:cap(l)] {
				l[:cap(l)][i] = 77
			}
		}
	}
}

func TestP3TheSameAgain(t *testing.T) {
	say := func(code []api.Op) string {
		a, e := flow.Reach(code)
		b, f := flow.Next(code, 1)
		c, g := flow.Back(code, 1)
		return fmt.Sprint(a, e, b, f, c, g)
	}
	asked := [][]api.Op{nil, ops(api.OpRet, 0), ops(api.OpJump, 1, api.OpJump, 0), ops(api.OpJump, 9), ops(99, 0), ops(api.OpZero, 1, api.OpPop, 0)}
	var first []string
	for _, code := range asked {
		first = append(first, say(code))
	}
	for i, code := range slices.Backward(asked) {
		if got := say(code); got != first[i] {
			t.Errorf("%v: %s, and %s at first", code, got, first[i])
		}
	}
}
