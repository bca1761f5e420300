package op_test

import (
	"fmt"
	"math"
	"math/rand"
	"slices"
	"strings"
	"testing"

	"mizzen/api"
	"mizzen/op"
)

// The codes as chapter 1 and package api tell them, written out once more, so that a slip in the package is seen.
var (
	withA    = []int{1, 8, 9, 10, 11, 12}
	withoutA = []int{2, 3, 4, 5, 6, 7, 13, 14, 15, 16, 17, 18, 19, 20, 21}
	noCodes  = []int{math.MinInt, -257, -256, -255, -1, 0, 22, 23, 255, 256, 257, 264, 1 << 32, 1<<32 + 1, math.MaxInt}
)

// Numbers at the edges of what A may be, and far beyond them.
var (
	inRange  = []int{-2147483648, -2147483647, -65536, -256, -1, 0, 1, 39, 40, 255, 256, 65536, 2147483646, 2147483647}
	outRange = []int{math.MinInt, -4294967296, -2147483649, 2147483648, 4294967295, 4294967296, math.MaxInt}
)

func wantCheck(t *testing.T, o api.Op, want api.Errno) {
	t.Helper()
	if got := op.Check(o); got != want {
		t.Errorf("Check %v: %d, want %d", o, got, want)
	}
}

func TestA1CheckOfOpsThatNameA(t *testing.T) {
	for _, code := range withA {
		for _, a := range inRange {
			wantCheck(t, api.Op{Code: code, A: a}, api.OK)
		}
		for _, a := range outRange {
			wantCheck(t, api.Op{Code: code, A: a}, api.ErrRange)
		}
	}
}

func TestA1CheckOfOpsThatDoNotNameA(t *testing.T) {
	for _, code := range withoutA {
		for _, a := range slices.Concat(inRange, outRange) {
			want := api.ErrForm
			if a == 0 {
				want = api.OK
			}
			wantCheck(t, api.Op{Code: code, A: a}, want)
		}
	}
}

func TestA1CheckOfNoCode(t *testing.T) {
	for _, code := range noCodes {
		for _, a := range slices.Concat(inRange, outRange) {
			wantCheck(t, api.Op{Code: code, A: a}, api.ErrKind)
		}
	}
}

func TestA1Wrap(t *testing.T) {
	for n, want := range map[int]int{
		0: 0, 1: 1, -1: -1,
		2147483647: 2147483647, 2147483648: -2147483648, 2147483649: -2147483647,
		-2147483648: -2147483648, -2147483649: 2147483647, -2147483650: 2147483646,
		4294967295: -1, 4294967296: 0, 4294967297: 1,
		-4294967295: 1, -4294967296: 0, -4294967297: -1,
		2147483647 * 2147483647: 1, -2147483648 * -2147483648: 0, 98304 * 65536: -2147483648,
		math.MaxInt: -1, math.MinInt: 0, math.MinInt + 5: 5,
	} {
		if got := op.Wrap(n); got != want {
			t.Errorf("Wrap %d: %d, want %d", n, got, want)
		}
	}
	r := rand.New(rand.NewSource(1))
	for range 10000 {
		n := int(r.Uint64())
		w := op.Wrap(n)
		if w < api.MinInt || w > api.MaxInt || uint64(n-w)%(1<<32) != 0 {
			t.Fatalf("Wrap %d: %d", n, w)
		}
	}
}

func wantEncode(t *testing.T, l []api.Op, want string, errno api.Errno) {
	t.Helper()
	s, e := op.Encode(l)
	if s != want || e != errno {
		t.Errorf("Encode %v: %x %d, want %x %d", l, s, e, want, errno)
	}
}

func wantDecode(t *testing.T, s string, want []api.Op, errno api.Errno) {
	t.Helper()
	l, e := op.Decode(s)
	if !slices.Equal(l, want) || e != errno {
		t.Errorf("Decode %x: %v %d, want %v %d", s, l, e, want, errno)
	}
}

func repeat(o api.Op, n int) []api.Op {
	return slices.Repeat([]api.Op{o}, n)
}

func TestA2EncodeOneOp(t *testing.T) {
	for _, code := range withoutA {
		wantEncode(t, []api.Op{{Code: code}}, string([]byte{byte(code)}), api.OK)
	}
	for _, code := range withA {
		for a, want := range map[int]string{
			0: "\x00\x00\x00\x00", 1: "\x00\x00\x00\x01", -1: "\xff\xff\xff\xff",
			0x01020304: "\x01\x02\x03\x04", -2: "\xff\xff\xff\xfe", 256: "\x00\x00\x01\x00",
			2147483647: "\x7f\xff\xff\xff", -2147483648: "\x80\x00\x00\x00",
		} {
			wantEncode(t, []api.Op{{Code: code, A: a}}, string([]byte{byte(code)})+want, api.OK)
		}
	}
}

func TestA2EncodeManyOps(t *testing.T) {
	wantEncode(t, nil, "", api.OK)
	wantEncode(t, []api.Op{}, "", api.OK)
	wantEncode(t, []api.Op{{Code: 21}, {Code: 12, A: 1}, {Code: 20}, {Code: 10}}, "\x15\x0c\x00\x00\x00\x01\x14\x0a\x00\x00\x00\x00", api.OK)
	wantEncode(t, repeat(api.Op{Code: 2}, 40), strings.Repeat("\x02", 40), api.OK)
	wantEncode(t, repeat(api.Op{Code: 1, A: -1}, 40), strings.Repeat("\x01\xff\xff\xff\xff", 40), api.OK)
}

func TestA2EncodeErrors(t *testing.T) {
	kind, form, rng := api.Op{Code: 22}, api.Op{Code: 2, A: 1}, api.Op{Code: 1, A: 2147483648}
	wantEncode(t, repeat(api.Op{Code: 2}, 41), "", api.ErrMany)
	wantEncode(t, repeat(kind, 41), "", api.ErrMany)
	wantEncode(t, repeat(kind, 40), "", api.ErrKind)
	for _, c := range []struct {
		wrong api.Op
		errno api.Errno
	}{{kind, api.ErrKind}, {form, api.ErrForm}, {rng, api.ErrRange}} {
		for at := range 40 {
			l := repeat(api.Op{Code: 3}, 40)
			l[at] = c.wrong
			wantEncode(t, l, "", c.errno)
		}
	}
	wantEncode(t, []api.Op{rng, form, kind}, "", api.ErrRange)
	wantEncode(t, []api.Op{form, kind, rng}, "", api.ErrForm)
	wantEncode(t, []api.Op{{Code: 2}, kind, form, rng}, "", api.ErrKind)
}

func TestA2DecodeOneOp(t *testing.T) {
	wantDecode(t, "", nil, api.OK)
	for code := range 256 {
		for left := range 5 {
			s := string([]byte{byte(code)}) + "\xff\xff\xff\xfe"[:left]
			switch {
			case slices.Contains(withA, code) && left == 4:
				wantDecode(t, s, []api.Op{{Code: code, A: -2}}, api.OK)
			case slices.Contains(withoutA, code) && left == 0:
				wantDecode(t, s, []api.Op{{Code: code}}, api.OK)
			default:
				wantDecode(t, s, nil, api.ErrForm)
			}
		}
	}
}

func TestA2DecodeManyOps(t *testing.T) {
	wantDecode(t, "\x01\x7f\xff\xff\xff\x0d", []api.Op{{Code: 1, A: 2147483647}, {Code: 13}}, api.OK)
	wantDecode(t, "\x01\x80\x00\x00\x00\x0d", []api.Op{{Code: 1, A: -2147483648}, {Code: 13}}, api.OK)
	wantDecode(t, "\x15\x0c\x01\x02\x03\x04\x14\x0a\x00\x00\x00\x00", []api.Op{{Code: 21}, {Code: 12, A: 0x01020304}, {Code: 20}, {Code: 10}}, api.OK)
	wantDecode(t, "\x02\x03\x00", nil, api.ErrForm)
	wantDecode(t, "\x02\x0b\x00\x00\x00", nil, api.ErrForm)
	wantDecode(t, "\x00\x02", nil, api.ErrForm)
}

func TestA2DecodeTooManyOps(t *testing.T) {
	full, fullA := strings.Repeat("\x02", 40), strings.Repeat("\x01\x00\x00\x00\x05", 40)
	wantDecode(t, full, repeat(api.Op{Code: 2}, 40), api.OK)
	wantDecode(t, fullA, repeat(api.Op{Code: 1, A: 5}, 40), api.OK)
	for _, ahead := range []string{full, fullA} {
		wantDecode(t, ahead+"\x02", nil, api.ErrMany)
		wantDecode(t, ahead+"\x01\x00\x00\x00\x00", nil, api.ErrMany)
		wantDecode(t, ahead+"\x00", nil, api.ErrForm)
		wantDecode(t, ahead+"\x16", nil, api.ErrForm)
		wantDecode(t, ahead+"\x01\x00\x00\x00", nil, api.ErrForm)
		wantDecode(t, ahead+"\x02\x00", nil, api.ErrMany)
	}
	wantDecode(t, "\x00"+full+"\x02", nil, api.ErrForm)
	wantDecode(t, full[:39]+"\x00"+"\x02", nil, api.ErrForm)
	wantDecode(t, strings.Repeat("\x02", 1<<20), nil, api.ErrMany)
}

func someOps(r *rand.Rand) []api.Op {
	l := make([]api.Op, r.Intn(41))
	for i := range l {
		l[i].Code = 1 + r.Intn(21)
		if slices.Contains(withA, l[i].Code) {
			l[i].A = int(int32(r.Uint32()))
		}
	}
	return l
}

func TestA3WhatIsEncodedIsDecoded(t *testing.T) {
	r := rand.New(rand.NewSource(3))
	for range 2000 {
		l := someOps(r)
		s, e := op.Encode(l)
		if e != api.OK {
			t.Fatalf("Encode %v: %d", l, e)
		}
		wantDecode(t, s, l, api.OK)
	}
}

func TestA3WhatIsDecodedIsEncoded(t *testing.T) {
	r, decoded := rand.New(rand.NewSource(4)), 0
	for range 20000 {
		b := make([]byte, r.Intn(9))
		for i := range b {
			b[i] = byte(r.Intn(23))
		}
		if l, e := op.Decode(string(b)); e == api.OK {
			decoded++
			wantEncode(t, l, string(b), api.OK)
		}
	}
	if decoded < 1000 {
		t.Errorf("only %d were decoded", decoded)
	}
}

// TestP1 hands in what is far from right: that nothing panics, and that with an error nothing else comes.
func TestP1(t *testing.T) {
	r := rand.New(rand.NewSource(5))
	for range 5000 {
		l := make([]api.Op, r.Intn(45))
		for i := range l {
			l[i] = api.Op{Code: int(r.Uint64()) >> r.Intn(64), A: int(r.Uint64()) >> r.Intn(64)}
		}
		if s, e := op.Encode(l); e != api.OK && s != "" {
			t.Fatalf("Encode %v: %x with %d", l, s, e)
		}
		b := make([]byte, r.Intn(300))
		for i := range b {
			b[i] = byte(r.Intn(24))
		}
		if l, e := op.Decode(string(b)); e != api.OK && len(l) != 0 {
			t.Fatalf("Decode %x: %v with %d", b, l, e)
		}
	}
}

func TestP2WhatIsHandedInIsOnlyRead(t *testing.T) {
	room := repeat(api.Op{Code: 77, A: 77}, 50)
	copy(room, []api.Op{{Code: 1, A: -5}, {Code: 2}, {Code: 13}})
	was := slices.Clone(room)
	s, _ := op.Encode(room[:3])
	if !slices.Equal(room, was) {
		t.Errorf("Encode left %v of %v", room, was)
	}
	room[0] = api.Op{Code: 18}
	if s != "\x01\xff\xff\xff\xfb\x02\x0d" {
		t.Errorf("Encode: %x", s)
	}
}

func TestP2AnAnswerIsNewMemory(t *testing.T) {
	a, _ := op.Decode("\x02\x03")
	b, _ := op.Decode("\x02\x03")
	a[0] = api.Op{Code: 18}
	_ = append(a[:1], api.Op{Code: 18})
	if fmt.Sprint(b) != "[{2 0} {3 0}]" {
		t.Errorf("a change of one answer is seen in another: %v", b)
	}
}

func TestP3TheSameAgain(t *testing.T) {
	say := func(s string) string {
		l, e := op.Decode(s)
		u, f := op.Encode(l)
		return fmt.Sprint(l, e, u, f)
	}
	asked := []string{"", "\x02", "\x00", "\x01\x00\x00\x00\x07", "\x01", strings.Repeat("\x02", 41)}
	var first []string
	for _, s := range asked {
		first = append(first, say(s))
	}
	for i, s := range slices.Backward(asked) {
		if got := say(s); got != first[i] {
			t.Errorf("%x: %s, and %s at first", s, got, first[i])
		}
	}
}
