package verify

import (
	"slices"

	"mizzen/api"
)

// stack of types, while an op is done; it is wrong once something was not there, or too much was.
type stack struct {
	types []int
	wrong bool
}

// behind an op of a function of a program: what it makes of a stack; false, if the op may not be done there.
func behind(o api.Op, types []int, p api.Program, f api.Func) ([]int, bool) {
	s := stack{types: slices.Clone(types)}
	switch o.Code {
	case api.OpPop, api.OpDup, api.OpSwap:
		s.turn(o.Code)
	case api.OpLoad:
		s.leave(f.Locals[o.A])
	case api.OpStore:
		s.take(f.Locals[o.A])
	case api.OpCall:
		s.call(p.Funcs[o.A])
	case api.OpRet:
		s.take(result(f)...)
		s.wrong = s.wrong || len(s.types) > 0
	default:
		s.do(o.Code)
	}
	return s.types, !s.wrong
}

// turn what is on top, of whatever type it is.
func (s *stack) turn(code int) {
	top := s.pop()
	switch code {
	case api.OpDup:
		s.leave(top, top)
	case api.OpSwap:
		below := s.pop()
		s.leave(top, below)
	}
}

// call a function.
func (s *stack) call(f api.Func) {
	s.take(f.Locals[:f.Params]...)
	s.leave(result(f)...)
}

// do an op that takes and leaves the same types wherever it stands.
func (s *stack) do(code int) {
	switch code {
	case api.OpPush, api.OpRecv:
		s.leave(api.TypeInt)
	case api.OpAdd, api.OpSub, api.OpMul:
		s.take(api.TypeInt, api.TypeInt)
		s.leave(api.TypeInt)
	case api.OpZero, api.OpSend:
		s.take(api.TypeInt)
	case api.OpNew:
		s.take(api.TypeInt)
		s.leave(api.TypeRef)
	case api.OpGet:
		s.take(api.TypeRef, api.TypeInt)
		s.leave(api.TypeInt)
	case api.OpSet:
		s.take(api.TypeRef, api.TypeInt, api.TypeInt)
	case api.OpLen, api.OpIsNull:
		s.take(api.TypeRef)
		s.leave(api.TypeInt)
	case api.OpNull:
		s.leave(api.TypeNull)
	}
}

// pop the top, whatever it is; TypeNone, if there is none.
func (s *stack) pop() int {
	last := len(s.types) - 1
	if last < 0 {
		s.wrong = true
		return api.TypeNone
	}
	top := s.types[last]
	s.types = s.types[:last]
	return top
}

// take what stands for these types, of which the last one is on top.
func (s *stack) take(types ...int) {
	for _, t := range slices.Backward(types) {
		if !standsFor(s.pop(), t) {
			s.wrong = true
		}
	}
}

// leave types, the last one on top.
func (s *stack) leave(types ...int) {
	s.types = append(s.types, types...)
	s.wrong = s.wrong || len(s.types) > api.MaxStack
}

// result of a function: its type, or nothing.
func result(f api.Func) []int {
	if f.Result == api.TypeNone {
		return nil
	}
	return []int{f.Result}
}
