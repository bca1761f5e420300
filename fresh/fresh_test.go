package fresh_test

import (
	"fmt"
	"testing"

	"mizzen/api"
	"mizzen/fresh"
)

func TestBlocksAsTheyAre(t *testing.T) {
	for _, l := range [][][]int{nil, {}, {nil}, {{}}, {{1}}, {{1, 2}, {}, {3}}} {
		if got := fresh.Blocks(l); fmt.Sprint(got) != fmt.Sprint(l) {
			t.Errorf("Blocks %v: %v", l, got)
		}
	}
}

func TestBlocksAreNewMemory(t *testing.T) {
	room := []int{1, 2, 3, 4}
	l := [][]int{room[:2], room[2:3]}
	got := fresh.Blocks(l)
	got[0][0], got[1][0] = 77, 77
	_, _ = append(got[0], 77), append(got[1], 77)
	got[1] = nil
	if fmt.Sprint(l, room) != "[[1 2] [3]] [1 2 3 4]" {
		t.Errorf("a change of the copy is seen: %v %v", l, room)
	}
}

func whole() api.Machine {
	return api.Machine{
		Frames: []api.Frame{
			{Func: 1, Pc: 2, Locals: []api.Value{{N: 3}}, Stack: []api.Value{{Ref: true, N: 4}}},
			{Func: 5, Pc: 6, Locals: []api.Value{{N: 7}}, Stack: []api.Value{{N: 8}}},
		},
		Blocks: [][]int{{9}, {10, 11}},
		In:     []int{12},
		Out:    []int{13, 14},
		Status: 15,
		Trap:   16,
	}
}

func TestMachineAsItIs(t *testing.T) {
	for _, m := range []api.Machine{{}, whole(), {Status: 3}, {Trap: -1}, {In: []int{1}}} {
		if got := fresh.Machine(m); fmt.Sprint(got) != fmt.Sprint(m) {
			t.Errorf("Machine %v: %v", m, got)
		}
	}
}

func TestMachineIsNewMemory(t *testing.T) {
	m := whole()
	got := fresh.Machine(m)
	for i := range got.Frames {
		got.Frames[i].Locals[0].N, got.Frames[i].Stack[0].N = 77, 77
		got.Frames[i].Pc = 77
	}
	got.Blocks[0][0], got.In[0], got.Out[0] = 77, 77, 77
	got.Blocks[1] = nil
	if fmt.Sprint(m) != fmt.Sprint(whole()) {
		t.Errorf("a change of the copy is seen: %v", m)
	}
}

func TestWorldAsItIs(t *testing.T) {
	for _, w := range []api.World{{}, {Machines: []api.Machine{whole()}}, {Machines: []api.Machine{{}, whole(), {Trap: 1}}}} {
		if got := fresh.World(w); fmt.Sprint(got) != fmt.Sprint(w) {
			t.Errorf("World %v: %v", w, got)
		}
	}
}

func TestWorldIsNewMemory(t *testing.T) {
	w := api.World{Machines: []api.Machine{whole(), whole()}}
	was := fmt.Sprint(w)
	got := fresh.World(w)
	got.Machines[0].In[0], got.Machines[1].Blocks[0][0] = 77, 77
	got.Machines[1].Status = 77
	if fmt.Sprint(w) != was {
		t.Errorf("a change of the copy is seen: %v", w)
	}
}
