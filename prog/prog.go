// Package prog: programs: see doc/02-prog.md.
package prog

import (
	"slices"
	"strings"

	"mizzen/api"
	"mizzen/octet"
	"mizzen/op"
)

// Check a program.
func Check(p api.Program) api.Errno {
	switch {
	case len(p.Funcs) == 0:
		return api.ErrNone
	case len(p.Funcs) > api.MaxFuncs:
		return api.ErrMany
	}
	for _, f := range p.Funcs {
		if errno := checkFunc(f, len(p.Funcs)); errno != api.OK {
			return errno
		}
	}
	if p.Funcs[0].Params != 0 || p.Funcs[0].Result != api.TypeNone {
		return api.ErrState
	}
	return api.OK
}

// Encode a program.
func Encode(p api.Program) (string, api.Errno) {
	if errno := Check(p); errno != api.OK {
		return "", errno
	}
	var out strings.Builder
	octet.Put(&out, len(p.Funcs))
	for _, f := range p.Funcs {
		putFunc(&out, f)
	}
	return out.String(), api.OK
}

// Decode a program.
func Decode(s string) (api.Program, api.Errno) {
	if len(s) > api.MaxBytes {
		return api.Program{}, api.ErrMany
	}
	p, ok := read(s)
	if !ok {
		return api.Program{}, api.ErrForm
	}
	if errno := Check(p); errno != api.OK {
		return api.Program{}, errno
	}
	return p, api.OK
}

// checkFunc: a function of a program that has so many.
func checkFunc(f api.Func, funcs int) api.Errno {
	switch {
	case len(f.Locals) > api.MaxLocals:
		return api.ErrMany
	case f.Params < 0 || f.Params > len(f.Locals):
		return api.ErrRange
	case !typed(f):
		return api.ErrKind
	case len(f.Code) == 0:
		return api.ErrNone
	}
	if _, errno := op.Encode(f.Code); errno != api.OK {
		return errno
	}
	if slices.ContainsFunc(f.Code, func(o api.Op) bool { return !namesOne(o, f, funcs) }) {
		return api.ErrRange
	}
	return api.OK
}

// typed: whether all locals, and the result, have a type that they may have.
func typed(f api.Func) bool {
	untyped := slices.ContainsFunc(f.Locals, func(t int) bool { return t != api.TypeInt && t != api.TypeRef })
	return !untyped && f.Result >= api.TypeNone && f.Result <= api.TypeRef
}

// namesOne: whether A is the number of something that is there; an op whose A is no such number is not asked.
func namesOne(o api.Op, f api.Func, funcs int) bool {
	switch o.Code {
	case api.OpLoad, api.OpStore:
		return isNumber(o.A, len(f.Locals))
	case api.OpJump, api.OpZero:
		return isNumber(o.A, len(f.Code))
	case api.OpCall:
		return isNumber(o.A, funcs)
	}
	return true
}

// isNumber of one of so many things.
func isNumber(n, many int) bool {
	return n >= 0 && n < many
}

// putFunc: a function that was checked, so that its code has no error here.
func putFunc(out *strings.Builder, f api.Func) {
	code, _ := op.Encode(f.Code)
	octet.Put(out, f.Params, len(f.Locals))
	octet.Put(out, f.Locals...)
	octet.Put(out, f.Result, len(code)>>8, len(code))
	out.WriteString(code)
}
