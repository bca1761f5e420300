package desk

import (
	"mizzen/api"
	"mizzen/collect"
	"mizzen/fresh"
	"mizzen/image"
	"mizzen/world"
)

// doer of acts, one behind the other: the world as the last one left it, and the program of its machines.
type doer struct {
	api.World
	program api.Program
}

// do an act. The world that was handed in is never written to: what comes of an act is another one, which takes its place if there is no error.
func (d *doer) do(a api.Act) api.Errno {
	if errno := d.check(a); errno != api.OK {
		return errno
	}
	after, errno := d.after(a)
	if errno != api.OK {
		return errno
	}
	d.World = after
	return api.OK
}

// check the world, and what may be said of an act ahead of doing it.
func (d *doer) check(a api.Act) api.Errno {
	if errno := world.Check(d.program, d.World); errno != api.OK {
		return errno
	}
	switch {
	case a.Kind < api.ActTurn || a.Kind > api.ActRestore:
		return api.ErrKind
	case a.Kind == api.ActTurn && a.Of != 0:
		return api.ErrForm
	case (a.Kind == api.ActCollect || a.Kind == api.ActRestore) && a.N != 0:
		return api.ErrForm
	case a.Of < 0 || a.Of >= len(d.Machines):
		return api.ErrRange
	}
	return api.OK
}

// after an act that was checked: the world.
func (d *doer) after(a api.Act) (api.World, api.Errno) {
	switch a.Kind {
	case api.ActTurn:
		return world.Turn(d.program, d.World, a.N)
	case api.ActSend:
		return world.Send(d.program, d.World, a.Of, a.N)
	case api.ActCollect:
		return d.with(a.Of, func(m api.Machine) (api.Machine, api.Errno) {
			collected, _, errno := collect.Collect(d.program, m)
			return collected, errno
		})
	}
	return d.with(a.Of, func(m api.Machine) (api.Machine, api.Errno) {
		saved, errno := image.Save(d.program, m)
		if errno != api.OK {
			return api.Machine{}, errno
		}
		return image.Restore(d.program, saved)
	})
}

// with what is made of one machine in its place, the world is otherwise as it was.
func (d *doer) with(of int, made func(m api.Machine) (api.Machine, api.Errno)) (api.World, api.Errno) {
	m, errno := made(d.Machines[of])
	if errno != api.OK {
		return api.World{}, errno
	}
	w := fresh.World(d.World)
	w.Machines[of] = m
	return w, api.OK
}
