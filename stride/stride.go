// Package stride: one op of a machine that was checked, for the layers that do ops. Since a step of a right machine is a right machine, who does many of them in a row needs to check but once.
package stride

import (
	"slices"

	"mizzen/api"
	"mizzen/block"
	"mizzen/fresh"
	"mizzen/op"
)

// trap: why an op gives up.
type trap int

// doer of an op: a machine that was checked, its own copy, which is given up if the op traps.
type doer struct {
	api.Machine
	program api.Program
}

// Do the next op of a machine that was checked, and is Running or Waiting: the machine then, new memory. All that an op takes is there, so that nothing but a trap is ever recovered.
func Do(p api.Program, m api.Machine) (after api.Machine) {
	defer func() {
		if why, ok := recover().(trap); ok {
			after = fresh.Machine(m)
			after.Status, after.Trap = api.Trapped, int(why)
		}
	}()
	d := doer{fresh.Machine(m), p}
	d.do()
	return d.Machine
}

// Begin function f of a program that was checked: its frame at first, locals 0 or none.
func Begin(p api.Program, f int) api.Frame {
	locals := make([]api.Value, len(p.Funcs[f].Locals))
	for i, t := range p.Funcs[f].Locals {
		locals[i].Ref = t == api.TypeRef
	}
	return api.Frame{Func: f, Locals: locals}
}

// do the op that is next. (A machine that has something in In was checked not to be Waiting.)
func (d *doer) do() {
	f := d.innermost()
	o := d.program.Funcs[f.Func].Code[f.Pc]
	if o.Code == api.OpRecv && len(d.In) == 0 {
		d.Status = api.Waiting
		return
	}
	f.Pc++
	switch o.Code {
	case api.OpPush, api.OpNull, api.OpPop, api.OpDup, api.OpSwap, api.OpLoad, api.OpStore:
		d.move(o)
	case api.OpAdd, api.OpSub, api.OpMul:
		d.reckon(o.Code)
	case api.OpJump, api.OpZero, api.OpCall, api.OpRet:
		d.goOn(o)
	case api.OpNew, api.OpGet, api.OpSet, api.OpLen, api.OpIsNull:
		d.useBlock(o.Code)
	case api.OpSend:
		d.send()
	case api.OpRecv:
		d.receive()
	}
}

// move values from and to the stack.
func (d *doer) move(o api.Op) {
	switch o.Code {
	case api.OpPush:
		d.putNumber(o.A)
	case api.OpNull:
		d.putRef(0)
	case api.OpPop:
		d.take()
	case api.OpDup:
		top := d.take()
		d.put(top, top)
	case api.OpSwap:
		top, below := d.take(), d.take()
		d.put(top, below)
	case api.OpLoad:
		d.put(d.innermost().Locals[o.A])
	case api.OpStore:
		d.innermost().Locals[o.A] = d.take()
	}
}

// reckon: put what two numbers make.
func (d *doer) reckon(code int) {
	switch code {
	case api.OpAdd:
		d.combine(func(below, top int) int { return below + top })
	case api.OpSub:
		d.combine(func(below, top int) int { return below - top })
	case api.OpMul:
		d.combine(func(below, top int) int { return below * top })
	}
}

func (d *doer) combine(made func(below, top int) int) {
	top, below := d.take().N, d.take().N
	d.putNumber(op.Wrap(made(below, top)))
}

// goOn elsewhere than at the place behind.
func (d *doer) goOn(o api.Op) {
	switch o.Code {
	case api.OpJump:
		d.innermost().Pc = o.A
	case api.OpZero:
		if d.take().N == 0 {
			d.innermost().Pc = o.A
		}
	case api.OpCall:
		d.call(o.A)
	case api.OpRet:
		d.ret()
	}
}

func (d *doer) call(f int) {
	if len(d.Frames) == api.MaxFrames {
		panic(trap(api.TrapDepth))
	}
	begun := Begin(d.program, f)
	params := begun.Locals[:d.program.Funcs[f].Params]
	for i := range slices.Backward(params) {
		params[i] = d.take()
	}
	d.Frames = append(d.Frames, begun)
}

// ret: whatever is on the stack of a function that ends is its result.
func (d *doer) ret() {
	ended := *d.innermost()
	d.Frames = d.Frames[:len(d.Frames)-1]
	if len(d.Frames) == 0 {
		d.Status = api.Done
		return
	}
	d.put(ended.Stack...)
}

func (d *doer) useBlock(code int) {
	switch code {
	case api.OpNew:
		d.newBlock()
	case api.OpGet:
		at, ref := d.take().N, d.take().N
		n, errno := block.Get(d.Blocks, ref, at)
		trapIf(errno)
		d.putNumber(n)
	case api.OpSet:
		n, at, ref := d.take().N, d.take().N, d.take().N
		blocks, errno := block.Set(d.Blocks, ref, at, n)
		trapIf(errno)
		d.Blocks = blocks
	case api.OpLen:
		d.measure()
	case api.OpIsNull:
		none := 0
		if d.take().N == 0 {
			none = 1
		}
		d.putNumber(none)
	}
}

func (d *doer) newBlock() {
	blocks, ref, errno := block.New(d.Blocks, d.take().N)
	if errno != api.OK {
		panic(trap(api.TrapSize))
	}
	d.Blocks = blocks
	d.putRef(ref)
}

func (d *doer) measure() {
	ref := d.take().N
	if ref == 0 {
		panic(trap(api.TrapNone))
	}
	d.putNumber(len(d.Blocks[ref-1]))
}

// trapIf a number is not there: all refs and numbers of a machine are right, so that it is either the ref that is none or the index.
func trapIf(errno api.Errno) {
	switch errno {
	case api.OK:
		return
	case api.ErrNone:
		panic(trap(api.TrapNone))
	}
	panic(trap(api.TrapIndex))
}

func (d *doer) send() {
	if len(d.Out) == api.MaxBox {
		panic(trap(api.TrapSend))
	}
	d.Out = append(d.Out, d.take().N)
}

func (d *doer) receive() {
	d.putNumber(d.In[0])
	d.In = d.In[1:]
}

// innermost frame; a call or a return makes another one that.
func (d *doer) innermost() *api.Frame {
	return &d.Frames[len(d.Frames)-1]
}

// take the top of the stack.
func (d *doer) take() api.Value {
	f := d.innermost()
	last := len(f.Stack) - 1
	top := f.Stack[last]
	f.Stack = f.Stack[:last]
	return top
}

// put values onto the stack, the last one on top.
func (d *doer) put(l ...api.Value) {
	f := d.innermost()
	f.Stack = append(f.Stack, l...)
}

func (d *doer) putNumber(n int) {
	d.put(api.Value{N: n})
}

func (d *doer) putRef(ref int) {
	d.put(api.Value{Ref: true, N: ref})
}
