// Package fresh: new memory, for the layers that answer what they were handed with something changed: no list of a copy shares memory with what it was made of, nor with another one.
package fresh

import (
	"slices"

	"mizzen/api"
)

// Blocks as they are.
func Blocks(l [][]int) [][]int {
	out := make([][]int, len(l))
	for i, b := range l {
		out[i] = slices.Clone(b)
	}
	return out
}

// Machine as it is.
func Machine(m api.Machine) api.Machine {
	return api.Machine{
		Frames: frames(m.Frames),
		Blocks: Blocks(m.Blocks),
		In:     slices.Clone(m.In),
		Out:    slices.Clone(m.Out),
		Status: m.Status,
		Trap:   m.Trap,
	}
}

// World as it is.
func World(w api.World) api.World {
	out := api.World{Machines: make([]api.Machine, len(w.Machines))}
	for i, m := range w.Machines {
		out.Machines[i] = Machine(m)
	}
	return out
}

func frames(l []api.Frame) []api.Frame {
	out := make([]api.Frame, len(l))
	for i, f := range l {
		out[i] = api.Frame{Func: f.Func, Pc: f.Pc, Locals: slices.Clone(f.Locals), Stack: slices.Clone(f.Stack)}
	}
	return out
}
