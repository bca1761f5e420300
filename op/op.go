// Package op: ops: see doc/01-op.md.
package op

import (
	"iter"
	"slices"
	"strings"

	"mizzen/api"
	"mizzen/octet"
)

// sizeOfA is how many bytes A has.
const sizeOfA = 4

// Check an op.
func Check(o api.Op) api.Errno {
	switch {
	case !known(o.Code):
		return api.ErrKind
	case !namesA(o.Code) && o.A != 0:
		return api.ErrForm
	case o.A < api.MinInt || o.A > api.MaxInt:
		return api.ErrRange
	}
	return api.OK
}

// Wrap a number.
func Wrap(n int) int {
	return int(int32(n))
}

// Encode code.
func Encode(l []api.Op) (string, api.Errno) {
	if len(l) > api.MaxCode {
		return "", api.ErrMany
	}
	wrong := slices.IndexFunc(l, func(o api.Op) bool { return Check(o) != api.OK })
	if wrong >= 0 {
		return "", Check(l[wrong])
	}
	var out strings.Builder
	out.Grow(len(l) * (1 + sizeOfA))
	for _, o := range l {
		putOp(&out, o)
	}
	return out.String(), api.OK
}

// Decode code.
func Decode(s string) ([]api.Op, api.Errno) {
	var l []api.Op
	for o, errno := range each(s) {
		if errno != api.OK {
			return nil, errno
		}
		if len(l) == api.MaxCode {
			return nil, api.ErrMany
		}
		l = append(l, o)
	}
	return l, api.OK
}

func known(code int) bool {
	return code >= api.OpPush && code <= api.OpRecv
}

func namesA(code int) bool {
	switch code {
	case api.OpPush, api.OpLoad, api.OpStore, api.OpJump, api.OpZero, api.OpCall:
		return true
	}
	return false
}

func putOp(out *strings.Builder, o api.Op) {
	octet.Put(out, o.Code)
	if namesA(o.Code) {
		octet.PutFour(out, o.A)
	}
}

// each op of bytes, with OK; at the first place where there is none, ErrForm and nothing behind it, since nobody knows where the next one would begin.
func each(s string) iter.Seq2[api.Op, api.Errno] {
	return func(yield func(api.Op, api.Errno) bool) {
		for at := 0; at < len(s); {
			o, size, errno := first(s[at:])
			if !yield(o, errno) || errno != api.OK {
				return
			}
			at += size
		}
	}
}

// first op of bytes (there is at least one byte), and how many bytes it has.
func first(s string) (api.Op, int, api.Errno) {
	o, size := api.Op{Code: int(s[0])}, 1
	if namesA(o.Code) {
		size += sizeOfA
	}
	if !known(o.Code) || len(s) < size {
		return api.Op{}, 0, api.ErrForm
	}
	o.A = Wrap(octet.Number(s[1:size]))
	return o, size, api.OK
}
