package stride_test

import (
	"fmt"
	"testing"

	"mizzen/api"
	"mizzen/stride"
)

// The ops one by one are tested where they are promised, in package machine.

func pair() api.Program {
	return api.Program{Funcs: []api.Func{
		{Code: []api.Op{{Code: api.OpPush, A: 5}, {Code: api.OpCall, A: 1}, {Code: api.OpRet}}},
		{Params: 1, Locals: []int{api.TypeInt, api.TypeRef}, Code: []api.Op{{Code: api.OpLoad, A: 1}, {Code: api.OpLen}, {Code: api.OpSend}, {Code: api.OpRet}}},
	}}
}

func TestBegin(t *testing.T) {
	for f, want := range []string{"{0 0 [] []}", "{1 0 [{false 0} {true 0}] []}"} {
		if got := fmt.Sprint(stride.Begin(pair(), f)); got != want {
			t.Errorf("Begin %d: %s, want %s", f, got, want)
		}
	}
}

// TestDo op after op, up to a trap; each machine stays as it was.
func TestDo(t *testing.T) {
	m := api.Machine{Frames: []api.Frame{stride.Begin(pair(), 0)}}
	for _, want := range []string{
		"{[{0 1 [] [{false 5}]}] [] [] [] 0 0}",
		"{[{0 2 [] []} {1 0 [{false 5} {true 0}] []}] [] [] [] 0 0}",
		"{[{0 2 [] []} {1 1 [{false 5} {true 0}] [{true 0}]}] [] [] [] 0 0}",
		"{[{0 2 [] []} {1 1 [{false 5} {true 0}] [{true 0}]}] [] [] [] 3 1}",
	} {
		was := fmt.Sprint(m)
		next := stride.Do(pair(), m)
		if fmt.Sprint(next) != want || fmt.Sprint(m) != was {
			t.Errorf("Do %s: %v, want %s; it is %v then", was, next, want, m)
		}
		m = next
	}
}
