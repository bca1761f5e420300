package octet_test

import (
	"strings"
	"testing"

	"mizzen/octet"
)

func TestPut(t *testing.T) {
	for _, c := range []struct {
		l    []int
		want string
	}{
		{nil, ""},
		{[]int{0}, "\x00"},
		{[]int{1, 255, 2}, "\x01\xff\x02"},
		{[]int{256, 0x1234, -1, -256}, "\x00\x34\xff\x00"},
	} {
		var out strings.Builder
		out.WriteString("ahead")
		octet.Put(&out, c.l...)
		if out.String() != "ahead"+c.want {
			t.Errorf("Put %v: %q, want %q", c.l, out.String(), "ahead"+c.want)
		}
	}
}

func TestNumber(t *testing.T) {
	for s, want := range map[string]int{"": 0, "\x07": 7, "\xff": 255, "\x01\x02": 258, "\x80\x00\x00\x01": 0x80000001} {
		if n := octet.Number(s); n != want {
			t.Errorf("Number %q: %d, want %d", s, n, want)
		}
	}
}
