package octet_test

import (
	"strings"
	"testing"

	"mizzen/octet"
)

func TestPut(t *testing.T) {
	for _, c := range []struct {
		l    []int
		want string
	}{
		{nil, ""},
		{[]int{0}, "\x00"},
		{[]int{1, 255, 2}, "\x01\xff\x02"},
		{[]int{256, 0x1234, -1, -256}, "\x00\x34\xff\x00"},
	} {
		var out strings.Builder
		out.WriteString("ahead")
		octet.Put(&out, c.l...)
		if out.String() != "ahead"+c.want {
			t.Errorf("Put %v: %q, want %q", c.l, out.String(), "ahead"+c.want)
		}
	}
}

func TestPutFour(t *testing.T) {
	for n, want := range map[int]string{
		0: "\x00\x00\x00\x00", 1: "\x00\x00\x00\x01", 0x01020304: "\x01\x02\x03\x04", 2147483647: "\x7f\xff\xff\xff",
		-1: "\xff\xff\xff\xff", -2: "\xff\xff\xff\xfe", -2147483648: "\x80\x00\x00\x00",
	} {
		var out strings.Builder
		out.WriteString("ahead")
		octet.PutFour(&out, n)
		if out.String() != "ahead"+want {
			t.Errorf("PutFour %d: %q, want %q", n, out.String(), "ahead"+want)
		}
	}
}

func TestNumber(t *testing.T) {
	for s, want := range map[string]int{"": 0, "\x07": 7, "\xff": 255, "\x01\x02": 258, "\x80\x00\x00\x01": 0x80000001} {
		if n := octet.Number(s); n != want {
			t.Errorf("Number %q: %d, want %d", s, n, want)
		}
	}
}
