package verify_test

import (
	"fmt"
	"math/rand"
	"slices"
	"strings"
	"testing"

	"mizzen/api"
	"mizzen/verify"
)

// rule of an op of function f of p, by the letters of rules in verify_test.go.
func rule(p api.Program, f int, o api.Op) (takes, leaves string) {
	letter := func(t int) string { return " irn"[t : t+1] }
	result := func(f api.Func) string { return strings.TrimSpace(letter(f.Result)) }
	switch o.Code {
	case api.OpLoad:
		return "", letter(p.Funcs[f].Locals[o.A])
	case api.OpStore:
		return letter(p.Funcs[f].Locals[o.A]), ""
	case api.OpCall:
		g := p.Funcs[o.A]
		for _, t := range g.Locals[:g.Params] {
			takes += letter(t)
		}
		return takes, result(g)
	case api.OpRet:
		return result(p.Funcs[f]), ""
	case api.OpZero:
		return "i", ""
	}
	for _, r := range rules {
		if r.o.Code == o.Code {
			return r.takes, r.leave
		}
	}
	return "", ""
}

// at: a place and what is on the stack there.
type at struct {
	pc    int
	stack string
}

// onward: all that may come behind what is at a place; false, if the op may not be done there.
func onward(p api.Program, f int, a at) ([]at, bool) {
	if a.pc == len(p.Funcs[f].Code) {
		return nil, false
	}
	o := p.Funcs[f].Code[a.pc]
	takes, leaves := rule(p, f, o)
	left, ok := ruled(a.stack, takes, leaves)
	switch {
	case !ok || len(left) > 8 || o.Code == api.OpRet && left != "":
		return nil, false
	case o.Code == api.OpRet:
		return nil, true
	case o.Code == api.OpJump:
		return []at{{o.A, left}}, true
	case o.Code == api.OpZero:
		return []at{{o.A, left}, {a.pc + 1, left}}, true
	}
	return []at{{a.pc + 1, left}}, true
}

// allWays: entries of a function worked out another way: each way to each place is gone by itself, whatever else comes there, and all that was seen at a place is held together in the end. And whether somewhere ways met that leave different types.
func allWays(p api.Program, f int) (told string, ok, differ bool) {
	seen := []at{{0, ""}}
	for k := 0; k < len(seen); k++ {
		next, ok := onward(p, f, seen[k])
		if !ok {
			return "", false, false
		}
		for _, a := range next {
			if !slices.Contains(seen, a) {
				seen = append(seen, a)
			}
		}
	}
	var out []string
	for pc := range p.Funcs[f].Code {
		var here []string
		for _, a := range seen {
			if a.pc == pc {
				here = append(here, a.stack)
			}
		}
		stack, ok := together(here)
		if !ok {
			return "", false, false
		}
		differ = differ || len(here) > 1
		if len(here) > 0 {
			out = append(out, fmt.Sprint(pc, typesOf(stack)))
		}
	}
	return strings.Join(out, " "), true, differ
}

// together: one stack for all: a Ref where one of them has it, and numbers where all have them.
func together(l []string) (string, bool) {
	if len(l) == 0 {
		return "", true
	}
	out := []byte(l[0])
	for _, s := range l {
		if len(s) != len(out) {
			return "", false
		}
		for k := range out {
			if (s[k] == 'i') != (out[k] == 'i') {
				return "", false
			}
			if s[k] == 'r' {
				out[k] = 'r'
			}
		}
	}
	return string(out), true
}

// someProgram, whose ops mostly have what they take; its jumps mostly go where as much is on the stack.
func someProgram(rnd *rand.Rand) api.Program {
	p := program(make([]api.Func, 1+rnd.Intn(3))...)
	for f := range p.Funcs {
		l := make([]int, 1+rnd.Intn(3))
		for k := range l {
			l[k] = 1 + rnd.Intn(2)
		}
		p.Funcs[f] = api.Func{Locals: l}
		if f > 0 {
			p.Funcs[f].Params, p.Funcs[f].Result = rnd.Intn(len(l)+1), rnd.Intn(3)
		}
	}
	for f := range p.Funcs {
		writeCode(rnd, p, f)
	}
	return p
}

// writeCode of function f: op by op, with what would be on the stack if it came straight there.
func writeCode(rnd *rand.Rand, p api.Program, f int) {
	many, stack := 3+rnd.Intn(14), ""
	var seen []string
	for pc := range many {
		seen = append(seen, stack)
		o, left := drawOp(rnd, p, f, stack, pc == many-1)
		p.Funcs[f].Code = append(p.Funcs[f].Code, o)
		stack = left
	}
	code := p.Funcs[f].Code
	for pc, o := range code {
		if o.Code != api.OpJump && o.Code != api.OpZero {
			continue
		}
		code[pc].A = rnd.Intn(many)
		left, _ := ruled(seen[pc], map[int]string{api.OpZero: "i"}[o.Code], "")
		for range 20 {
			if to := rnd.Intn(many); len(seen[to]) == len(left) {
				if _, ok := together([]string{seen[to], left}); ok {
					code[pc].A = to
				}
			}
		}
	}
}

// drawOp that has what it takes, if one is found soon; the last one does not go straight on.
func drawOp(rnd *rand.Rand, p api.Program, f int, stack string, last bool) (api.Op, string) {
	for tries := 0; ; tries++ {
		o := api.Op{Code: 1 + rnd.Intn(21)}
		if rnd.Intn(4) == 0 {
			o.Code = []int{api.OpZero, api.OpNull, api.OpSwap}[rnd.Intn(3)]
		}
		if last {
			o.Code = []int{api.OpJump, api.OpRet}[rnd.Intn(2)]
		}
		switch o.Code {
		case api.OpLoad, api.OpStore:
			o.A = rnd.Intn(len(p.Funcs[f].Locals))
		case api.OpCall:
			o.A = rnd.Intn(len(p.Funcs))
		case api.OpRet:
			if !last && rnd.Intn(4) > 0 {
				continue
			}
		}
		takes, leaves := rule(p, f, o)
		left, ok := ruled(stack, takes, leaves)
		if ok && len(left) <= 8 && (o.Code != api.OpRet || left == "") || tries > 40 || rnd.Intn(60) == 0 {
			return o, left
		}
	}
}

// TestD2AllWays: what Func says is what all ways make, gone one by one.
func TestD2AllWays(t *testing.T) {
	rnd := rand.New(rand.NewSource(1))
	fits, misfits, turned := 0, 0, 0
	for range 20000 {
		p := someProgram(rnd)
		all := api.OK
		for f := range p.Funcs {
			want, ok, differ := allWays(p, f)
			l, e := verify.Func(p, f)
			if (e == api.OK) != ok || told(l) != want || !ok && e != api.ErrState {
				t.Fatalf("Func %v %d: %s %d, want %s %v", p, f, told(l), e, want, ok)
			}
			if ok {
				fits++
			} else {
				misfits++
				all = api.ErrState
			}
			if differ {
				turned++
			}
		}
		wantProgram(t, p, all)
	}
	if fits < 5000 || misfits < 3000 || turned < 500 {
		t.Errorf("%d fit, %d do not, %d have ways that meet with different types", fits, misfits, turned)
	}
}

// frame of a function that runs, with nothing known of a value but its letter.
type frame struct {
	f, pc int
	stack string
}

// TestD3 runs programs that fit, on ways that are drawn, and holds what is on the stack against the entries at each step; a block that is loaded may be null, too.
func TestD3(t *testing.T) {
	rnd := rand.New(rand.NewSource(2))
	steps := 0
	for range 20000 {
		p := someProgram(rnd)
		if verify.Program(p) != api.OK {
			continue
		}
		entries := make([][]api.Entry, len(p.Funcs))
		for f := range p.Funcs {
			entries[f], _ = verify.Func(p, f)
		}
		frames := []frame{{}}
		for range 100 {
			last := &frames[len(frames)-1]
			if !entered(entries[last.f], last.pc, last.stack) {
				t.Fatalf("%v: %v is not as %s", p, *last, told(entries[last.f]))
			}
			var ok bool
			if frames, ok = step(rnd, p, frames); !ok {
				t.Fatalf("%v: an op does not have what it takes: %v", p, frames)
			}
			steps++
			if len(frames) == 0 || len(frames) > 6 {
				break
			}
		}
	}
	if steps < 10000 {
		t.Errorf("only %d steps", steps)
	}
}

// entered: whether what is on the stack stands for what the entry of that place says.
func entered(l []api.Entry, pc int, stack string) bool {
	k := slices.IndexFunc(l, func(e api.Entry) bool { return e.Pc == pc })
	if k < 0 || len(l[k].Stack) != len(stack) {
		return false
	}
	for at, t := range typesOf(stack) {
		if want := l[k].Stack[at]; t != want && (t != api.TypeNull || want != api.TypeRef) {
			return false
		}
	}
	return true
}

// step of frames; false, if the op does not have what it takes.
func step(rnd *rand.Rand, p api.Program, frames []frame) ([]frame, bool) {
	top := len(frames) - 1
	a := frames[top]
	if a.pc >= len(p.Funcs[a.f].Code) {
		return frames, false
	}
	o := p.Funcs[a.f].Code[a.pc]
	takes, leaves := rule(p, a.f, o)
	if o.Code == api.OpCall {
		leaves = ""
	}
	left, ok := ruled(a.stack, takes, leaves)
	if !ok || o.Code == api.OpRet && left != "" {
		return frames, false
	}
	if o.Code == api.OpLoad && rnd.Intn(2) == 0 {
		left = a.stack + strings.ReplaceAll(leaves, "r", "n")
	}
	frames[top].stack = left
	switch {
	case o.Code == api.OpRet:
		frames = frames[:top]
		if top > 0 {
			frames[top-1].stack += a.stack
		}
		return frames, true
	case o.Code == api.OpJump || o.Code == api.OpZero && rnd.Intn(2) == 0:
		frames[top].pc = o.A
		return frames, true
	}
	frames[top].pc++
	if o.Code == api.OpCall {
		frames = append(frames, frame{f: o.A})
	}
	return frames, true
}

// TestP1 hands in what is far from right: that nothing panics, and that with an error nothing else comes.
func TestP1(t *testing.T) {
	rnd := rand.New(rand.NewSource(3))
	number := func() int { return int(rnd.Uint64()) >> rnd.Intn(64) }
	for range 10000 {
		p := someProgram(rnd)
		f := &p.Funcs[rnd.Intn(len(p.Funcs))]
		switch rnd.Intn(5) {
		case 0:
			f.Params = number()
		case 1:
			f.Locals = append(f.Locals, number())
		case 2:
			f.Result = number()
		default:
			f.Code[rnd.Intn(len(f.Code))] = api.Op{Code: number(), A: number()}
		}
		of := rnd.Intn(5) - 1
		if l, e := verify.Func(p, of); e != api.OK && len(l) > 0 || e == api.OK && len(l) == 0 {
			t.Fatalf("Func %v %d: %s %d", p, of, told(l), e)
		}
		verify.Program(p)
		a, b := []int{number(), number()}, []int{number(), number()}
		if l, e := verify.Join(a, b); e != api.OK && len(l) > 0 {
			t.Fatalf("Join %v %v: %v %d", a, b, l, e)
		}
	}
}
