package whole

import (
	"encoding/binary"
	"fmt"
	"math/rand"
	"testing"

	"mizzen/api"
	"mizzen/image"
	"mizzen/machine"
)

func saved(t *testing.T, p api.Program, m api.Machine) string {
	t.Helper()
	s, e := image.Save(p, m)
	if e != api.OK {
		t.Fatalf("%v: Save %v: %d", p, m, e)
	}
	return s
}

func restored(t *testing.T, p api.Program, s string) api.Machine {
	t.Helper()
	m, e := image.Restore(p, s)
	if e != api.OK {
		t.Fatalf("%v: Restore %x: %d", p, s, e)
	}
	return m
}

// told: what Save is to say.
func told(m api.Machine) string {
	var b []byte
	four := func(n int) { b = binary.BigEndian.AppendUint32(b, uint32(n)) }
	numbers := func(l []int) {
		b = append(b, byte(len(l)))
		for _, n := range l {
			four(n)
		}
	}
	values := func(l []api.Value) {
		b = append(b, byte(len(l)))
		for _, v := range l {
			b = append(b, map[bool]byte{false: 0, true: 1}[v.Ref])
			four(v.N)
		}
	}
	b = append(b, byte(m.Status), byte(m.Trap))
	numbers(m.In)
	numbers(m.Out)
	b = append(b, byte(len(m.Blocks)))
	for _, l := range m.Blocks {
		numbers(l)
	}
	b = append(b, byte(len(m.Frames)))
	for _, f := range m.Frames {
		b = append(b, byte(f.Func), byte(f.Pc))
		values(f.Locals)
		values(f.Stack)
	}
	return string(b)
}

// TestJ1J2: each machine is saved as it is to be, restored as it was, and runs on as it does; with a byte less, or more, it is none.
func TestJ1J2(t *testing.T) {
	along(t, 30, 60, func(rnd *rand.Rand, p api.Program, m api.Machine) {
		s := saved(t, p, m)
		if s != told(m) {
			t.Fatalf("%v: Save %v: %x, want %x", p, m, s, told(m))
		}
		got := restored(t, p, s)
		if fmt.Sprint(got) != fmt.Sprint(m) {
			t.Fatalf("%v: Restore %x: %v, want %v", p, s, got, m)
		}
		fuel := rnd.Intn(40)
		x, left := run(t, p, m, fuel)
		y, rest := run(t, p, got, fuel)
		if fmt.Sprint(x, left) != fmt.Sprint(y, rest) {
			t.Fatalf("%v: Run %v %d: %v %d, and restored %v %d", p, m, fuel, x, left, y, rest)
		}
		for _, wrong := range []string{s[:rnd.Intn(len(s))], s[:len(s)-1], s + string([]byte{byte(rnd.Intn(256))})} {
			if none, e := image.Restore(p, wrong); e != api.ErrForm || fmt.Sprint(none) != fmt.Sprint(api.Machine{}) {
				t.Fatalf("%v: Restore %x: %v %d", p, wrong, none, e)
			}
		}
	})
}

// TestJ1SpoiltMachines: bytes of a machine that is not right say what Check says of it.
func TestJ1SpoiltMachines(t *testing.T) {
	wrong := map[api.Errno]int{}
	along(t, 31, 60, func(rnd *rand.Rand, p api.Program, m api.Machine) {
		if rnd.Intn(2) == 0 {
			return
		}
		s := told(spoilt(rnd, m))
		m, ok := read(s)
		want := machine.Check(p, m)
		if !ok {
			want = api.ErrForm
		}
		got, e := image.Restore(p, s)
		if e != want || want != api.OK && fmt.Sprint(got) != fmt.Sprint(api.Machine{}) || want == api.OK && told(got) != s {
			t.Fatalf("%v: Restore %x: %v %d, want %d", p, s, got, e, want)
		}
		wrong[want]++
	})
	if len(wrong) < 7 {
		t.Errorf("%v", wrong)
	}
}

// TestJ1SpoiltBytes: whatever bytes are, they are refused, or what they tell is saved as them.
func TestJ1SpoiltBytes(t *testing.T) {
	taken := 0
	along(t, 32, 60, func(rnd *rand.Rand, p api.Program, m api.Machine) {
		b := []byte(told(m))
		for range 1 + rnd.Intn(3) {
			b[rnd.Intn(len(b))] = byte(rnd.Intn(256) >> (rnd.Intn(2) * 6))
		}
		s := string(b)
		m, ok := read(s)
		want := api.ErrForm
		if ok {
			want = machine.Check(p, m)
		}
		got, e := image.Restore(p, s)
		if e != want || e != api.OK && fmt.Sprint(got) != fmt.Sprint(api.Machine{}) {
			t.Fatalf("%v: Restore %x: %v %d, want %d", p, s, got, e, want)
		}
		if e == api.OK {
			taken++
			if again := saved(t, p, got); again != s {
				t.Fatalf("%v: Restore %x: %v, of which Save says %x", p, s, got, again)
			}
		}
	})
	if taken < 100 {
		t.Errorf("only %d were taken", taken)
	}
}

// read: what bytes tell, place by place; false, if they are none of the form.
func read(s string) (api.Machine, bool) {
	at, right := 0, true
	take := func(size int) []byte {
		if at+size > len(s) {
			right = false
			return make([]byte, size)
		}
		at += size
		return []byte(s[at-size : at])
	}
	one := func() int { return int(take(1)[0]) }
	numbers := func() (l []int) {
		for range one() {
			l = append(l, int(int32(binary.BigEndian.Uint32(take(4)))))
		}
		return l
	}
	values := func() (l []api.Value) {
		for range one() {
			kind := one()
			right = right && kind < 2
			l = append(l, api.Value{Ref: kind == 1, N: int(int32(binary.BigEndian.Uint32(take(4))))})
		}
		return l
	}
	var m api.Machine
	m.Status, m.Trap = one(), one()
	m.In, m.Out = numbers(), numbers()
	for range one() {
		m.Blocks = append(m.Blocks, numbers())
	}
	for range one() {
		f := api.Frame{Func: one(), Pc: one()}
		f.Locals, f.Stack = values(), values()
		m.Frames = append(m.Frames, f)
	}
	return m, right && at == len(s)
}
