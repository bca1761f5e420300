package image

import (
	"mizzen/api"
	"mizzen/octet"
	"mizzen/op"
)

// misfit: why a reader gives up: what is left is none of the form that it must be of.
type misfit struct{}

// reader takes bytes from the front of a text.
type reader struct {
	rest string
}

// read the machine that bytes tell; false, if they are none of its form. Nothing but a misfit is ever recovered.
func read(s string) (m api.Machine, ok bool) {
	defer func() {
		if _, gaveUp := recover().(misfit); gaveUp {
			m, ok = api.Machine{}, false
		}
	}()
	r := &reader{rest: s}
	m = r.machine()
	if r.rest != "" {
		panic(misfit{})
	}
	return m, true
}

// machine: its parts stand here in the order of their bytes, which is that of the calls.
func (r *reader) machine() api.Machine {
	return api.Machine{
		Status: r.small(),
		Trap:   r.small(),
		In:     r.numbers(),
		Out:    r.numbers(),
		Blocks: many(r, func() []int { return r.numbers() }),
		Frames: many(r, func() api.Frame {
			return api.Frame{Func: r.small(), Pc: r.small(), Locals: r.values(), Stack: r.values()}
		}),
	}
}

func (r *reader) numbers() []int {
	return many(r, func() int { return r.number() })
}

func (r *reader) values() []api.Value {
	return many(r, func() api.Value {
		kind := r.small()
		if kind != aNumber && kind != aRef {
			panic(misfit{})
		}
		return api.Value{Ref: kind == aRef, N: r.number()}
	})
}

// many things, behind the byte that tells how many.
func many[T any](r *reader, one func() T) []T {
	var l []T
	for range r.small() {
		l = append(l, one())
	}
	return l
}

// small number, of one byte.
func (r *reader) small() int {
	return octet.Number(r.take(1))
}

// number of a machine, of four bytes.
func (r *reader) number() int {
	return op.Wrap(octet.Number(r.take(4)))
}

func (r *reader) take(size int) string {
	if size > len(r.rest) {
		panic(misfit{})
	}
	s := r.rest[:size]
	r.rest = r.rest[size:]
	return s
}
