package block_test

import (
	"fmt"
	"math"
	"math/rand"
	"slices"
	"testing"

	"mizzen/api"
	"mizzen/block"
)

// Numbers at the edges of what a machine may have, and far beyond them.
var (
	inRange  = []int{-2147483648, -2147483647, -1, 0, 1, 2147483646, 2147483647}
	outRange = []int{math.MinInt, -4294967296, -2147483649, 2147483648, 4294967295, 4294967296, math.MaxInt}
)

// sized: blocks of so many noughts each.
func sized(sizes ...int) [][]int {
	var l [][]int
	for _, size := range sizes {
		l = append(l, make([]int, size))
	}
	return l
}

// wrong blocks, and what Check says of them: to be told ahead of all else.
func wrong() map[api.Errno][][][]int {
	return map[api.Errno][][][]int{
		api.ErrMany:  {make([][]int, 9), sized(41), sized(20, 20, 1), sized(5, 5, 5, 5, 5, 5, 5, 6), append(make([][]int, 9), []int{1 << 31}), append(sized(41), []int{1 << 31})},
		api.ErrRange: {{{1 << 31}}, {{1, 2}, {3, -1<<31 - 1}}, {{}, {0, math.MaxInt, 0}}},
	}
}

func wantCheck(t *testing.T, l [][]int, want api.Errno) {
	t.Helper()
	if e := block.Check(l); e != want {
		t.Errorf("Check %v: %d, want %d", l, e, want)
	}
}

func wantNew(t *testing.T, l [][]int, size int, want string, ref int, errno api.Errno) {
	t.Helper()
	if got, r, e := block.New(l, size); fmt.Sprint(got) != want || r != ref || e != errno {
		t.Errorf("New %v %d: %v %d %d, want %s %d %d", l, size, got, r, e, want, ref, errno)
	}
}

func wantGet(t *testing.T, l [][]int, ref, at, want int, errno api.Errno) {
	t.Helper()
	if n, e := block.Get(l, ref, at); n != want || e != errno {
		t.Errorf("Get %v %d %d: %d %d, want %d %d", l, ref, at, n, e, want, errno)
	}
}

func wantSet(t *testing.T, l [][]int, ref, at, n int, want string, errno api.Errno) {
	t.Helper()
	if got, e := block.Set(l, ref, at, n); fmt.Sprint(got) != want || e != errno {
		t.Errorf("Set %v %d %d %d: %v %d, want %s %d", l, ref, at, n, got, e, want, errno)
	}
}

func wantKeep(t *testing.T, l [][]int, refs []int, want, then string, errno api.Errno) {
	t.Helper()
	if got, now, e := block.Keep(l, refs); fmt.Sprint(got) != want || fmt.Sprint(now) != then || e != errno {
		t.Errorf("Keep %v %v: %v %v %d, want %s %s %d", l, refs, got, now, e, want, then, errno)
	}
}

func TestE1Check(t *testing.T) {
	for _, l := range [][][]int{nil, {}, {nil}, {{}}, {{1}}, sized(40), sized(39, 1), sized(0, 40, 0), make([][]int, 8), sized(5, 5, 5, 5, 5, 5, 5, 5)} {
		wantCheck(t, l, api.OK)
	}
	for _, n := range inRange {
		wantCheck(t, [][]int{{}, {0, n}}, api.OK)
	}
	for _, n := range outRange {
		wantCheck(t, [][]int{{}, {0, n}}, api.ErrRange)
		wantCheck(t, [][]int{{n}, {}}, api.ErrRange)
	}
	for errno, all := range wrong() {
		for _, l := range all {
			wantCheck(t, l, errno)
		}
	}
}

func TestE1New(t *testing.T) {
	wantNew(t, nil, 0, "[[]]", 1, api.OK)
	wantNew(t, nil, 3, "[[0 0 0]]", 1, api.OK)
	wantNew(t, [][]int{{1, 2}, {}, {3}}, 2, "[[1 2] [] [3] [0 0]]", 4, api.OK)
	for many := range 9 {
		for used := range 41 {
			l := make([][]int, many)
			if many > 0 {
				l[many-1] = slices.Repeat([]int{7}, used)
			} else if used > 0 {
				continue
			}
			for _, size := range []int{0, 1, 39 - used, 40 - used, 41 - used, 41, 1 << 31, math.MaxInt - 40, math.MaxInt} {
				switch {
				case size < 0:
					wantNew(t, l, size, "[]", 0, api.ErrRange)
				case many == 8 || used+size > 40 || size > 40:
					wantNew(t, l, size, "[]", 0, api.ErrSpace)
				default:
					wantNew(t, l, size, fmt.Sprint(append(slices.Clone(l), make([]int, size))), many+1, api.OK)
				}
			}
		}
	}
}

// TestE1NewErrors: a size below 0 is told ahead of no room.
func TestE1NewErrors(t *testing.T) {
	for _, size := range []int{-1, -40, math.MinInt} {
		for _, l := range [][][]int{nil, {{1}}, sized(40), make([][]int, 8)} {
			wantNew(t, l, size, "[]", 0, api.ErrRange)
		}
	}
	for errno, all := range wrong() {
		for _, l := range all {
			for _, size := range []int{-1, 0, 1, 41} {
				wantNew(t, l, size, "[]", 0, errno)
			}
		}
	}
}

func TestE1GetAndSet(t *testing.T) {
	l := [][]int{{4, 5, 6}, {}, {-7}}
	wantGet(t, l, 1, 0, 4, api.OK)
	wantGet(t, l, 1, 2, 6, api.OK)
	wantGet(t, l, 3, 0, -7, api.OK)
	wantSet(t, l, 1, 0, 9, "[[9 5 6] [] [-7]]", api.OK)
	wantSet(t, l, 1, 2, 9, "[[4 5 9] [] [-7]]", api.OK)
	wantSet(t, l, 3, 0, 9, "[[4 5 6] [] [9]]", api.OK)
	for _, n := range inRange {
		wantSet(t, l, 1, 1, n, fmt.Sprintf("[[4 %d 6] [] [-7]]", n), api.OK)
	}
	for _, n := range outRange {
		wantSet(t, l, 1, 1, n, "[]", api.ErrRange)
	}
}

// TestE1GetAndSetErrors: of every ref and every place that is none, whatever else is wrong.
func TestE1GetAndSetErrors(t *testing.T) {
	far := []int{math.MinInt, -1 << 32, -1, 1 << 32, math.MaxInt}
	refuse := func(l [][]int, ref, at int, errno api.Errno) {
		t.Helper()
		wantGet(t, l, ref, at, 0, errno)
		for _, n := range []int{0, 1 << 31} {
			wantSet(t, l, ref, at, n, "[]", errno)
		}
	}
	l := [][]int{{4, 5, 6}, {}, {-7}}
	for _, at := range append([]int{0, 1, 2, 3}, far...) {
		refuse(l, 0, at, api.ErrNone)
		refuse(nil, 0, at, api.ErrNone)
		refuse(nil, 1, at, api.ErrRange)
		for _, ref := range append([]int{4, 5}, far...) {
			refuse(l, ref, at, api.ErrRange)
		}
		refuse(l, 2, at, api.ErrRange)
	}
	for _, at := range append([]int{3, 4}, far...) {
		refuse(l, 1, at, api.ErrRange)
		refuse(l, 3, at, api.ErrRange)
	}
	for errno, all := range wrong() {
		for _, l := range all {
			for ref := -1; ref <= 10; ref++ {
				refuse(l, ref, 0, errno)
				refuse(l, ref, -1, errno)
			}
		}
	}
}

func TestE2Keep(t *testing.T) {
	l := [][]int{{4, 5, 6}, {}, {-7}}
	wantKeep(t, l, nil, "[]", "[]", api.OK)
	wantKeep(t, l, []int{}, "[]", "[]", api.OK)
	wantKeep(t, l, []int{0}, "[]", "[0]", api.OK)
	wantKeep(t, l, []int{0, 0, 0}, "[]", "[0 0 0]", api.OK)
	wantKeep(t, l, []int{1}, "[[4 5 6]]", "[1]", api.OK)
	wantKeep(t, l, []int{2}, "[[]]", "[1]", api.OK)
	wantKeep(t, l, []int{3}, "[[-7]]", "[1]", api.OK)
	wantKeep(t, l, []int{3, 1}, "[[4 5 6] [-7]]", "[2 1]", api.OK)
	wantKeep(t, l, []int{3, 0, 2, 3, 3, 0, 2}, "[[] [-7]]", "[2 0 1 2 2 0 1]", api.OK)
	wantKeep(t, l, []int{3, 2, 1, 0}, "[[4 5 6] [] [-7]]", "[3 2 1 0]", api.OK)
	wantKeep(t, nil, []int{0}, "[]", "[0]", api.OK)
	wantKeep(t, nil, nil, "[]", "[]", api.OK)
}

func TestE2KeepErrors(t *testing.T) {
	l := [][]int{{4, 5, 6}, {}, {-7}}
	for _, ref := range []int{math.MinInt, -1 << 32, -1, 4, 5, 1 << 32, math.MaxInt} {
		wantKeep(t, l, []int{ref}, "[]", "[]", api.ErrRange)
		wantKeep(t, l, []int{1, 0, ref}, "[]", "[]", api.ErrRange)
		wantKeep(t, l, []int{ref, 1, 2, 3}, "[]", "[]", api.ErrRange)
	}
	wantKeep(t, nil, []int{1}, "[]", "[]", api.ErrRange)
	for errno, all := range wrong() {
		for _, l := range all {
			for _, refs := range [][]int{nil, {0}, {1}, {-1}} {
				wantKeep(t, l, refs, "[]", "[]", errno)
			}
		}
	}
}

// someBlocks that are right.
func someBlocks(r *rand.Rand) [][]int {
	l := make([][]int, r.Intn(9))
	for i := range l {
		l[i] = make([]int, r.Intn(6))
		for k := range l[i] {
			l[i][k] = int(int32(r.Uint32()))
		}
	}
	return l
}

// eachPlace of blocks, told by ref and index.
func eachPlace(l [][]int, do func(ref, at int)) {
	for i, b := range l {
		for at := range b {
			do(i+1, at)
		}
	}
}

func TestE3WhatIsSetIsGot(t *testing.T) {
	r := rand.New(rand.NewSource(1))
	for range 200 {
		l := someBlocks(r)
		eachPlace(l, func(ref, at int) {
			n := int(int32(r.Uint32()))
			then, e := block.Set(l, ref, at, n)
			if e != api.OK {
				t.Fatalf("Set %v %d %d %d: %d", l, ref, at, n, e)
			}
			eachPlace(l, func(other, place int) {
				want := l[other-1][place]
				if other == ref && place == at {
					want = n
				}
				wantGet(t, then, other, place, want, api.OK)
			})
		})
	}
}

func TestE3WhatIsKeptIsAsItWas(t *testing.T) {
	r := rand.New(rand.NewSource(2))
	for range 2000 {
		l := someBlocks(r)
		refs := make([]int, r.Intn(6))
		for i := range refs {
			refs[i] = r.Intn(len(l) + 1)
		}
		kept, then, e := block.Keep(l, refs)
		if e != api.OK || len(then) != len(refs) {
			t.Fatalf("Keep %v %v: %v %v %d", l, refs, kept, then, e)
		}
		stay := slices.DeleteFunc(slices.Compact(slices.Sorted(slices.Values(refs))), func(ref int) bool { return ref == 0 })
		if len(kept) != len(stay) {
			t.Fatalf("Keep %v %v: %v", l, refs, kept)
		}
		for i, ref := range refs {
			if then[i] != slices.Index(stay, ref)+1 || ref > 0 && !slices.Equal(kept[then[i]-1], l[ref-1]) {
				t.Fatalf("Keep %v %v: %v %v", l, refs, kept, then)
			}
		}
	}
}

// TestP1 hands in what is far from right: that nothing panics, and that with an error nothing else comes.
func TestP1(t *testing.T) {
	r := rand.New(rand.NewSource(3))
	number := func() int { return int(r.Uint64()) >> r.Intn(64) }
	for range 20000 {
		l := someBlocks(r)
		if len(l) > 0 && r.Intn(3) == 0 {
			l[r.Intn(len(l))] = []int{number()}
		}
		a, b, c := number(), number(), number()
		if got, ref, e := block.New(l, a); e != api.OK && (got != nil || ref != 0) {
			t.Fatalf("New %v %d: %v %d %d", l, a, got, ref, e)
		}
		if n, e := block.Get(l, a, b); e != api.OK && n != 0 {
			t.Fatalf("Get %v %d %d: %d %d", l, a, b, n, e)
		}
		if got, e := block.Set(l, a, b, c); e != api.OK && got != nil {
			t.Fatalf("Set %v %d %d %d: %v %d", l, a, b, c, got, e)
		}
		if got, then, e := block.Keep(l, []int{a, b}); e != api.OK && (got != nil || then != nil) {
			t.Fatalf("Keep %v %d %d: %v %v %d", l, a, b, got, then, e)
		}
	}
}

// roomy: the list, with spare room of fill behind it.
func roomy[T any](l []T, fill T) []T {
	return append(slices.Clone(l), slices.Repeat([]T{fill}, 8)...)[:len(l)]
}

// spoil a list, its spare room too.
func spoil[T any](l []T, with T) {
	for i := range l[:cap(l)] {
		l[:cap(l)][i] = with
	}
}

// TestP2: what is handed in is only read; and an answer is written over, list by list, spare room too: nothing else is to change.
func TestP2(t *testing.T) {
	l := roomy([][]int{roomy([]int{1, 2}, 77), roomy([]int{}, 77), roomy([]int{3}, 77)}, []int{77})
	refs := roomy([]int{3, 1, 2}, 77)
	all := func() string {
		s := fmt.Sprint(l[:cap(l)], refs[:cap(refs)])
		for _, b := range l {
			s += fmt.Sprint(b[:cap(b)])
		}
		return s
	}
	was := all()
	block.Check(l)
	block.Get(l, 1, 1)
	more, _, _ := block.New(l, 2)
	set, _ := block.Set(l, 1, 1, 9)
	kept, then, _ := block.Keep(l, refs)
	if all() != was {
		t.Fatalf("it is %s and was %s", all(), was)
	}
	spoil(then, 66)
	for _, got := range [][][]int{more, set, kept} {
		for i := range got {
			others := fmt.Sprint(slices.Delete(slices.Clone(got), i, i+1), refs)
			spoil(got[i], 66)
			if now := fmt.Sprint(slices.Delete(slices.Clone(got), i, i+1), refs); now != others {
				t.Errorf("a change of list %d is seen in others: %s, was %s", i, now, others)
			}
		}
		spoil(got, nil)
	}
	if all() != was {
		t.Errorf("an answer shares memory: it is %s and was %s", all(), was)
	}
}

func TestP3TheSameAgain(t *testing.T) {
	say := func(l [][]int) string {
		a, ref, e := block.New(l, 1)
		b, f := block.Set(l, 1, 0, 5)
		n, g := block.Get(l, 1, 0)
		c, then, h := block.Keep(l, []int{1, 0})
		return fmt.Sprint(a, ref, e, b, f, n, g, c, then, h, block.Check(l))
	}
	asked := [][][]int{nil, {{1, 2}, {3}}, {{}}, sized(40), {{1 << 31}}, make([][]int, 9), {{7}, {8}}}
	var first []string
	for _, l := range asked {
		first = append(first, say(l))
	}
	for i, l := range slices.Backward(asked) {
		if got := say(l); got != first[i] {
			t.Errorf("%v: %s, and %s at first", l, got, first[i])
		}
	}
}
