package prog

import (
	"mizzen/api"
	"mizzen/octet"
	"mizzen/op"
)

// reader takes bytes from the front of a text. Once there are too few it is short, and has nothing more: so many things may be read in a row, and asked about once.
type reader struct {
	rest  string
	short bool
}

func (r *reader) take(n int) string {
	if n > len(r.rest) {
		r.rest, r.short = "", true
		return ""
	}
	s := r.rest[:n]
	r.rest = r.rest[n:]
	return s
}

// number of so many bytes.
func (r *reader) number(size int) int {
	return octet.Number(r.take(size))
}

// read the program that bytes tell; false, if they are none of its form.
func read(s string) (api.Program, bool) {
	r := &reader{rest: s}
	var p api.Program
	for range r.number(1) {
		f, ok := readFunc(r)
		if !ok {
			return api.Program{}, false
		}
		p.Funcs = append(p.Funcs, f)
	}
	return p, !r.short && r.rest == ""
}

func readFunc(r *reader) (api.Func, bool) {
	f := api.Func{Params: r.number(1)}
	for range r.number(1) {
		f.Locals = append(f.Locals, r.number(1))
	}
	f.Result = r.number(1)
	code, errno := op.Decode(r.take(r.number(2)))
	f.Code = code
	return f, errno == api.OK && !r.short
}
