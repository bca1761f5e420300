package whole

import (
	"fmt"
	"math/rand"
	"testing"

	"mizzen/api"
	"mizzen/machine"
	"mizzen/report"
)

// textOf what is seen of a right machine.
func textOf(t *testing.T, p api.Program, m api.Machine) string {
	t.Helper()
	r, e := report.Of(p, m)
	s, f := report.Text(r)
	if e != api.OK || f != api.OK {
		t.Fatalf("%v: Of %v: %v %d, Text: %q %d", p, m, r, e, s, f)
	}
	return s
}

// cellsOf all blocks.
func cellsOf(m api.Machine) int {
	many := 0
	for _, b := range m.Blocks {
		for range b {
			many++
		}
	}
	return many
}

// TestK1K2: each machine that comes up is told as it is to be, and read as it was told.
func TestK1K2(t *testing.T) {
	told := map[string]int{}
	along(t, 40, 80, func(rnd *rand.Rand, p api.Program, m api.Machine) {
		m.Out = append(box(rnd, -2147483648+rnd.Intn(2000)), m.Out...)
		m.Out = m.Out[:min(len(m.Out), api.MaxBox)]
		want := fmt.Sprint("status ", m.Status, " trap ", m.Trap, " depth ", len(m.Frames), " cells ", cellsOf(m), " out")
		for _, n := range m.Out {
			want += fmt.Sprint(" ", n)
		}
		got := textOf(t, p, m)
		if got != want {
			t.Fatalf("%v: %v is told as %q, want %q", p, m, got, want)
		}
		told[got]++
		r, e := report.Read(got)
		of, f := report.Of(p, m)
		if fmt.Sprint(r) != fmt.Sprint(of) || e != api.OK || f != api.OK {
			t.Fatalf("Read %q: %v %d, want %v %d", got, r, e, of, f)
		}
	})
	if len(told) < 500 {
		t.Errorf("only %d texts", len(told))
	}
}

// TestK1SpoiltMachines: what Check does not take is not told.
func TestK1SpoiltMachines(t *testing.T) {
	wrong := map[api.Errno]int{}
	along(t, 41, 60, func(rnd *rand.Rand, p api.Program, m api.Machine) {
		m = spoilt(rnd, m)
		want := machine.Check(p, m)
		wrong[want]++
		r, e := report.Of(p, m)
		if e != want || want != api.OK && fmt.Sprint(r) != fmt.Sprint(api.Report{}) {
			t.Fatalf("%v: Of %v: %v %d, want %d", p, m, r, e, want)
		}
	})
	if len(wrong) < 7 {
		t.Errorf("%v", wrong)
	}
}

func TestP2OfReports(t *testing.T) {
	along(t, 42, 20, func(rnd *rand.Rand, p api.Program, m api.Machine) {
		m.Out = box(rnd, 1)
		p, m = programWithRoom(p), withRoom(m)
		handed := append(partsOf(m), partsOfProgram(p)...)
		was := show(handed)
		r, _ := report.Of(p, m)
		wantOwn(t, []part{partOf(r.Out, number)}, handed, was, p, "Of", m)
	})
}
