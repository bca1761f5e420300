package machine

import (
	"slices"

	"mizzen/api"
	"mizzen/block"
	"mizzen/op"
	"mizzen/verify"
)

// checker of a machine of a program that fits.
type checker struct {
	api.Machine
	program api.Program
}

// check one thing behind the other: each may lean on all that come ahead of it.
func (c checker) check() api.Errno {
	things := []func() api.Errno{c.checkStatus, c.checkBlocks, c.checkBoxes, c.checkDepth, c.checkFuncs, c.checkFrames, c.checkWaiting}
	for _, check := range things {
		if errno := check(); errno != api.OK {
			return errno
		}
	}
	return api.OK
}

func (c checker) checkStatus() api.Errno {
	first, last := 0, 0
	if c.Status == api.Trapped {
		first, last = api.TrapNone, api.TrapSend
	}
	switch {
	case c.Status < api.Running || c.Status > api.Trapped:
		return api.ErrKind
	case c.Trap < first || c.Trap > last:
		return api.ErrForm
	}
	return api.OK
}

func (c checker) checkBlocks() api.Errno {
	return block.Check(c.Blocks)
}

func (c checker) checkBoxes() api.Errno {
	strays := func(n int) bool { return !isNumber(n) }
	switch {
	case len(c.In) > api.MaxBox || len(c.Out) > api.MaxBox:
		return api.ErrMany
	case slices.ContainsFunc(c.In, strays) || slices.ContainsFunc(c.Out, strays):
		return api.ErrRange
	}
	return api.OK
}

func (c checker) checkDepth() api.Errno {
	switch {
	case len(c.Frames) > api.MaxFrames:
		return api.ErrMany
	case len(c.Frames) == 0 && c.Status != api.Done:
		return api.ErrNone
	case len(c.Frames) > 0 && c.Status == api.Done:
		return api.ErrForm
	}
	return api.OK
}

func (c checker) checkFuncs() api.Errno {
	ofNone := func(f api.Frame) bool { return f.Func < 0 || f.Func >= len(c.program.Funcs) }
	switch {
	case slices.ContainsFunc(c.Frames, ofNone):
		return api.ErrRange
	case len(c.Frames) > 0 && c.Frames[0].Func != 0:
		return api.ErrState
	}
	return api.OK
}

func (c checker) checkFrames() api.Errno {
	for i := range c.Frames {
		if errno := c.fits(i); errno != api.OK {
			return errno
		}
	}
	return api.OK
}

func (c checker) checkWaiting() api.Errno {
	if c.Status != api.Waiting {
		return api.OK
	}
	f := c.Frames[len(c.Frames)-1]
	if c.program.Funcs[f.Func].Code[f.Pc].Code != api.OpRecv || len(c.In) > 0 {
		return api.ErrState
	}
	return api.OK
}

// fits: frame i.
func (c checker) fits(i int) api.Errno {
	f := c.Frames[i]
	types := c.program.Funcs[f.Func].Locals
	entries, _ := verify.Func(c.program, f.Func)
	switch {
	case len(f.Locals) != len(types):
		return api.ErrForm
	case slices.ContainsFunc(f.Locals, c.strays) || slices.ContainsFunc(f.Stack, c.strays):
		return api.ErrRange
	case !areOf(f.Locals, types):
		return api.ErrKind
	case !c.placed(i, entries):
		return api.ErrNone
	case !areOf(f.Stack, c.stackTypes(i, entries)):
		return api.ErrState
	}
	return api.OK
}

// strays: whether a value is neither a number of a machine nor a ref of its blocks.
func (c checker) strays(v api.Value) bool {
	if v.Ref {
		return v.N < 0 || v.N > len(c.Blocks)
	}
	return !isNumber(v.N)
}

// placed: whether frame i, of a function with these entries, is where it may be: one that has called the next one is right behind that call.
func (c checker) placed(i int, l []api.Entry) bool {
	f := c.Frames[i]
	if i == len(c.Frames)-1 {
		return entryAt(l, f.Pc) >= 0
	}
	call := api.Op{Code: api.OpCall, A: c.Frames[i+1].Func}
	return entryAt(l, f.Pc-1) >= 0 && c.program.Funcs[f.Func].Code[f.Pc-1] == call
}

// stackTypes of frame i, which is where it may be: what is to be on its stack. The result of a call that is not over is not there yet.
func (c checker) stackTypes(i int, l []api.Entry) []int {
	types := l[entryAt(l, c.Frames[i].Pc)].Stack
	if i < len(c.Frames)-1 && c.program.Funcs[c.Frames[i+1].Func].Result != api.TypeNone {
		return types[:len(types)-1]
	}
	return types
}

// entryAt a place: which one it is; below 0, if that may not be come to.
func entryAt(l []api.Entry, pc int) int {
	return slices.IndexFunc(l, func(e api.Entry) bool { return e.Pc == pc })
}

// areOf: whether values are of these types, one by one.
func areOf(l []api.Value, types []int) bool {
	return slices.EqualFunc(l, types, func(v api.Value, t int) bool {
		return v.Ref == (t != api.TypeInt) && (t != api.TypeNull || v.N == 0)
	})
}

// isNumber of a machine.
func isNumber(n int) bool {
	return op.Wrap(n) == n
}
