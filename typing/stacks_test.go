package typing_test

import (
	"slices"
	"strings"
	"testing"

	"inlay/api"
	"inlay/typing"
)

// told tells Types of a text, in which a blank stands between instructions: of each one its stack, a dot, if that has none, and an x, if it is not reached.
func told(s string) typing.Types {
	var x typing.Types
	for _, word := range strings.Fields(s) {
		x.Of, x.Reached = append(x.Of, types(strings.Trim(word, "x."))), append(x.Reached, word != "x")
	}
	return x
}

// fine holds the stacks that the chapter says that a function has.
func fine(t *testing.T, p api.Program, f int, want string) {
	t.Helper()
	stacksAre(t, p, f, told(want), api.OK, 0)
	holds(t, p)
}

// wrong holds the error that the chapter says is met, and the instruction.
func wrong(t *testing.T, p api.Program, f int, err api.Errno, pc int) {
	t.Helper()
	stacksAre(t, p, f, typing.Types{}, err, pc)
	holds(t, p)
}

// bodied tells a program of one function, which has tables: its instructions are of node 0, and of each node there is told its Resume.
func bodied(resumes []int, texts ...string) api.Program {
	var l []body
	for _, r := range resumes {
		l = append(l, body{0, r})
	}
	return program(tabled(fn("f - - -", texts...), 0, times(len(texts), 0), l...))
}

func TestStacksOfOne(t *testing.T) { // P20.3: one instruction
	fine(t, only("ret"), 0, ".")
	fine(t, only("jump 0"), 0, ".")
	wrong(t, only("nop"), 0, api.ErrJump, 0)
	wrong(t, only("push 1"), 0, api.ErrJump, 0)
	wrong(t, only("pop"), 0, api.ErrStack, 0)
	wrong(t, only("panic"), 0, api.ErrStack, 0)
	wrong(t, only("load 0"), 0, api.ErrArg, 0)
	wrong(t, only("call 1"), 0, api.ErrCall, 0)
	wrong(t, only("getres 0"), 0, api.ErrPlace, 0)
	wrong(t, only("open 1"), 0, api.ErrPlace, 0)
	wrong(t, only("close 0"), 0, api.ErrPlace, 0)
	wrong(t, only("jump 1"), 0, api.ErrJump, 0)
}

func TestStacksOfRows(t *testing.T) { // P20.3: one behind the other
	fine(t, only("push 1", "push 2", "pair", "dup", "plus", "real", "panic"), 0, ". i ii c cc c i")
	fine(t, program(fn("f ic c i", "load 1", "store 2", "load 0", "load 3", "add", "store 3", "recover", "pop", "emit", "draw", "emit", "trace", "ret")), 0,
		". c . i ii i . ii i . i . .")
	p := program(fn("f - - -", "push 1", "call 1", "plus", "real", "defer 1", "ret"), fn("g i cc -", "ret"), fn("h - - - c", "getres 0", "setres 0", "ret"))
	fine(t, p, 0, ". i cc c i .")
	fine(t, p, 1, ".")
	fine(t, p, 2, ". c .")
}

func TestStacksOfJumps(t *testing.T) { // P20.3: ahead, back and to itself; what is not reached has nothing
	fine(t, only("jump 2", "push 1", "ret"), 0, ". x .")
	fine(t, only("push 1", "jump 3", "add", "emit", "ret"), 0, ". i x i .")
	fine(t, only("jump 3", "emit", "ret", "push 1", "jump 1"), 0, ". i . . i")
	fine(t, only("push 1", "jump 1"), 0, ". i")
	fine(t, only("push 1", "jump 1", "pop", "pop", "nop"), 0, ". i x x x")
	fine(t, only("nop", "nop", "jump 1"), 0, ". . .")
	fine(t, only("push 1", "push 2", "add", "jump 1"), 0, ". i ii i")
	fine(t, only("ret", "pop", "load 200", "call 39", "getres 3", "jump 1999"), 0, ". x x x x x")
	fine(t, only("push 3", "panic", "add"), 0, ". i x")
	fine(t, only("draw", "draw", "panic", "add"), 0, ". i ii x") // what lies below a panic's number counts for nothing
}

func TestStacksOfIfs(t *testing.T) { // P20.3: both ways
	fine(t, only("push 1", "if 3", "nop", "ret"), 0, ". i . .")
	fine(t, only("push 1", "if 2", "ret"), 0, ". i .")
	fine(t, only("push 1", "if 0", "ret"), 0, ". i .")
	fine(t, only("draw", "draw", "if 4", "jump 4", "panic"), 0, ". i ii i i")
	fine(t, only("draw", "draw", "if 5", "emit", "ret", "panic"), 0, ". i ii i . i")
}

func TestStacksOfLoops(t *testing.T) { // P20.3: reached again with the same, none is wrong
	fine(t, only("push 10", "push 1", "sub", "dup", "if 1", "emit", "ret"), 0, ". i ii i ii i .")
	fine(t, program(fn("f - - i", "load 0", "if 4", "ret", "nop", "load 0", "push 1", "sub", "store 0", "jump 0")), 0, ". i . x . i ii i .")
	fine(t, only("draw", "if 0", "draw", "if 0", "draw", "if 2", "ret"), 0, ". i . i . i .")
	fine(t, only("draw", "draw", "pair", "draw", "if 3", "real", "emit", "ret"), 0, ". i ii c ci c i .")
	fine(t, only("jump 5", "draw", "if 0", "ret", "ret", "jump 1"), 0, ". . i . x .")
}

func TestStacksOfAnOpen(t *testing.T) { // P20.3: its node's Resume is reached with the stack behind it
	fine(t, bodied([]int{3}, "push 1", "open 1", "close 1", "emit", "ret"), 0, ". i i i .")
	fine(t, bodied([]int{4}, "open 1", "push 1", "panic", "nop", "ret"), 0, ". . i x .") // by it alone
	fine(t, bodied([]int{3}, "draw", "open 1", "jump 2", "emit", "ret"), 0, ". i i i .")
	fine(t, bodied([]int{5, 4}, "draw", "open 1", "open 2", "jump 3", "close 1", "emit", "ret"), 0, ". i i i i i .")
	fine(t, bodied([]int{1}, "draw", "open 1", "emit", "ret"), 0, ". i i .") // the open itself
	fine(t, bodied([]int{2}, "draw", "open 1", "emit", "ret"), 0, ". i i .") // the one behind it
	wrong(t, bodied([]int{5}, "open 1", "push 1", "panic", "nop", "ret"), 0, api.ErrJump, 0)
	wrong(t, bodied([]int{1999}, "draw", "open 1", "emit", "ret"), 0, api.ErrJump, 1)
	wrong(t, bodied([]int{1}, "draw", "draw", "open 1", "panic"), 0, api.ErrStack, 2)
	wrong(t, bodied([]int{4}, "open 1", "draw", "draw", "jump 4", "panic"), 0, api.ErrStack, 3)
	wrong(t, bodied([]int{3, 1999}, "open 3", "close 1", "nop", "ret"), 0, api.ErrPlace, 0)
	wrong(t, bodied([]int{3, 1999}, "open 0", "close 1", "nop", "ret"), 0, api.ErrPlace, 0)
}

func TestStacksOfAClose(t *testing.T) { // P20.3: by Next: the Resume of the node that it names
	fine(t, bodied([]int{3}, "draw", "close 1", "pop", "emit", "ret"), 0, ". i x i .")
	fine(t, bodied([]int{3, 4}, "draw", "close 2", "pop", "pop", "panic"), 0, ". i x x i")
	wrong(t, bodied([]int{3}, "draw", "close 1", "ret"), 0, api.ErrJump, 1)
	wrong(t, bodied([]int{1}, "draw", "emit", "close 1"), 0, api.ErrStack, 2)
	wrong(t, bodied([]int{3}, "close 0", "draw", "ret", "ret"), 0, api.ErrPlace, 0)
	wrong(t, bodied([]int{3}, "close 2", "draw", "ret", "ret"), 0, api.ErrPlace, 0)
}

func TestStacksAnOpensNextIsFirst(t *testing.T) { // P20.3: its Resume is reached behind it
	// Next is nowhere, and the Resume has another stack; then the other way round.
	wrong(t, bodied([]int{1}, "draw", "draw", "open 1"), 0, api.ErrJump, 2)
	wrong(t, bodied([]int{1999}, "draw", "if 5", "draw", "nop", "open 1", "ret"), 0, api.ErrStack, 4)
	wrong(t, bodied([]int{5}, "draw", "if 5", "draw", "nop", "open 1", "ret"), 0, api.ErrStack, 4)
}

func TestStacksAnIfsNextIsFirst(t *testing.T) { // P20.3: the one behind is reached ahead of A
	wrong(t, only("draw", "draw", "if 1"), 0, api.ErrJump, 2) // nowhere behind; A is fine
	wrong(t, only("draw", "if 1"), 0, api.ErrJump, 1)         // nowhere behind; A has another stack
	wrong(t, only("draw", "if 9"), 0, api.ErrJump, 1)         // nowhere both
	wrong(t, only("draw", "if 9", "ret"), 0, api.ErrJump, 1)  // A nowhere
	wrong(t, only("draw", "if 1", "ret"), 0, api.ErrStack, 1) // A has another stack
	wrong(t, only("draw", "if 3", "ret", "pop"), 0, api.ErrStack, 3)
	wrong(t, only("draw", "if 5", "draw", "draw", "if 999", "ret"), 0, api.ErrStack, 4) // behind has another stack; A nowhere
	wrong(t, only("draw", "if 5", "draw", "draw", "if 0", "ret"), 0, api.ErrStack, 4)   // both have another stack
}

func TestStacksOfEffectsErrors(t *testing.T) { // P20.3: each, and the instruction that was gone through
	wrong(t, only("nop", "load 0", "ret"), 0, api.ErrArg, 1)
	wrong(t, program(fn("f i - -", "load 0", "store 1", "ret")), 0, api.ErrArg, 1)
	wrong(t, program(fn("f i - -", "nop", "store 0", "ret")), 0, api.ErrStack, 1)
	wrong(t, program(fn("f i - c", "load 0", "store 1", "ret")), 0, api.ErrType, 1)
	wrong(t, only("nop", "nop", "dup", "ret"), 0, api.ErrStack, 2)
	wrong(t, only("nop", "push 1", "add", "ret"), 0, api.ErrStack, 2)
	wrong(t, only("nop", "push 1", "real", "ret"), 0, api.ErrType, 2)
	wrong(t, only("nop", "call 1", "ret"), 0, api.ErrCall, 1)
	wrong(t, only("nop", "nop", "nop", "defer 39", "ret"), 0, api.ErrCall, 3)
	wrong(t, only("nop", "getres 0", "ret"), 0, api.ErrPlace, 1)
	wrong(t, program(fn("f - - - i", "getres 0", "setres 1", "ret")), 0, api.ErrPlace, 1)
	wrong(t, only("push 1", "ret"), 0, api.ErrStack, 1)
	wrong(t, only("nop", "open 1", "ret"), 0, api.ErrPlace, 1)
	wrong(t, only("nop", "close 1", "ret"), 0, api.ErrPlace, 1)
}

func TestStacksOfNoInstruction(t *testing.T) { // P20.3: ErrJump, of the instruction that leads there
	for _, n := range []int{1, 2, 7, mostCode} {
		for _, text := range []string{"nop", "push 1", "draw", "trace", "recover"} {
			wrong(t, program(of(fn("f - - -"), append(times(n-1, api.Instr{}), read(text))...)), 0, api.ErrJump, n-1)
		}
	}
	wrong(t, only("nop", "jump 2"), 0, api.ErrJump, 1)
	wrong(t, only("nop", "jump 1999"), 0, api.ErrJump, 1)
	wrong(t, only("jump 5", "ret", "ret"), 0, api.ErrJump, 0)
	wrong(t, only("push 1", "emit"), 0, api.ErrJump, 1)
	fine(t, only("ret", "jump 1999"), 0, ". x")
	fine(t, only("ret", "nop"), 0, ". x")
	// What leads there is not the last one.
	wrong(t, only("jump 2", "ret", "draw", "if 1", "jump 9", "ret"), 0, api.ErrJump, 4)
}

func TestStacksReachedAgain(t *testing.T) { // P20.3: ErrStack, with more, with fewer, and with another type; none with the same
	wrong(t, only("push 1", "jump 0"), 0, api.ErrStack, 1)
	wrong(t, only("draw", "draw", "jump 1"), 0, api.ErrStack, 2)
	wrong(t, only("draw", "emit", "jump 1"), 0, api.ErrStack, 2)
	wrong(t, only("draw", "draw", "nop", "pop", "pop", "jump 2"), 0, api.ErrStack, 5)
	twice := func(a, b string) api.Program {
		return program(fn("f - - -", "draw", "if 5", "nop", "call 1", "jump 7", "call 2", "jump 7", "jump 7"), fn("g - "+a+" -", "ret"), fn("h - "+b+" -", "ret"))
	}
	for _, x := range []struct{ a, b string }{{"i", "c"}, {"c", "i"}, {"ii", "ci"}, {"ii", "ic"}, {"icc", "ccc"}, {"icic", "ici"}, {"i", "-"}, {"-", "c"}, {"ic", "ccic"}} {
		wrong(t, twice(x.a, x.b), 0, api.ErrStack, 6)
	}
	for _, s := range []string{"i", "c", "ic", "icic", "cccc"} {
		fine(t, twice(s, s), 0, ". i . . "+s+" . "+s+" "+s)
	}
	fine(t, twice("-", "-"), 0, ". i . . . . . .")
}

func TestStacksTheLeastIsFirst(t *testing.T) { // P20.3: of what is reached and was not gone through; so of several errors the first is told
	wrong(t, only("draw", "if 4", "nop", "load 0", "pop"), 0, api.ErrArg, 3)                          // the way behind is followed first
	wrong(t, only("draw", "if 3", "jump 5", "load 0", "ret", "pop"), 0, api.ErrArg, 3)                // what was reached earlier, and is less
	wrong(t, only("jump 2", "load 0", "draw", "if 1", "pop"), 0, api.ErrArg, 1)                       // a way back
	wrong(t, only("jump 3", "nop", "load 0", "draw", "if 1", "pop"), 0, api.ErrArg, 2)                // and all behind it
	wrong(t, only("draw", "if 4", "draw", "if 5", "pop", "load 0"), 0, api.ErrStack, 4)               // of two ways that are still open
	wrong(t, only("draw", "if 5", "draw", "if 4", "jump 6", "pop", "load 0"), 0, api.ErrStack, 5)     // of three
	wrong(t, bodied([]int{3}, "jump 4", "nop", "ret", "pop", "open 1", "load 0"), 0, api.ErrStack, 3) // a Resume ahead of the open
	wrong(t, bodied([]int{4}, "open 1", "nop", "load 0", "ret", "pop"), 0, api.ErrArg, 2)             // and behind it
	// Which of two reaches an instruction first tells which of them is wrong.
	wrong(t, only("draw", "if 4", "draw", "jump 5", "nop", "jump 5"), 0, api.ErrStack, 4)
	wrong(t, only("jump 3", "draw", "jump 5", "draw", "if 1", "ret"), 0, api.ErrStack, 2)
	wrong(t, only("jump 3", "nop", "jump 5", "draw", "if 1", "pop"), 0, api.ErrStack, 5)
}

func TestStacksOfManyOnTheStack(t *testing.T) { // P20.3, P20.4: 60 are fine, more are not, by each instruction that gives more than it takes
	for _, x := range []struct {
		text  string
		first []string // what lies there ahead of it
		each  int      // by how many it grows
	}{
		{"push 1", nil, 1}, {"draw", nil, 1}, {"recover", nil, 2}, {"load 0", nil, 1}, {"load 1", nil, 1}, {"getres 0", nil, 1},
		{"dup", []string{"draw"}, 1}, {"dup", []string{"load 1"}, 1}, {"call 1", nil, 4}, {"call 2", []string{"load 1", "load 1"}, 2},
	} {
		n := (mostStack - len(x.first)) / x.each
		f := fn("f ic - - c", append(slices.Concat(x.first, times(n, x.text)), "nop")...)
		last := len(f.Code) - 1
		f.Code[last] = api.Instr{Op: api.Jump, A: last} // to itself: what lies there is told, and stays
		p := program(f, fn("g - icic -", "ret"), fn("h c icc -", "ret"))
		lay(t, p)
		full, err, _ := typing.Stacks(p, 0)
		if err != api.OK || typing.High(full) != mostStack {
			t.Errorf("%s: %d, %d, of %s", x.text, err, typing.High(full), show(p))
		}
		holds(t, p)
		p.Funcs[0].Code[last] = read(x.text)
		wrong(t, p, 0, api.ErrStack, last)
	}
}

func TestStacksOfOneFunctionOnly(t *testing.T) { // P20.3: what is wrong with others counts for nothing
	p := program(fn("a - - -", "pop"), fn("b - - -", "call 0", "defer 2", "ret"), fn("c - - -", "load 9"))
	fine(t, p, 1, ". . .")
	wrong(t, p, 0, api.ErrStack, 0)
	wrong(t, p, 2, api.ErrArg, 0)
}

func TestStacksOfMany(t *testing.T) { // P20.3: as many instructions as may be, in whatever order they are reached
	d := dice(5)
	for _, order := range []string{"rising", "falling", "to and fro", "any"} {
		way := make([]int, mostCode-1)
		for k := range way {
			way[k] = k + 1
		}
		switch order {
		case "falling":
			slices.Reverse(way)
		case "to and fro":
			for k := range way {
				way[k] = k/2 + 1
				if k%2 == 1 {
					way[k] = mostCode - 1 - k/2
				}
			}
		case "any":
			for k := range way {
				j := d.roll(k + 1)
				way[k], way[j] = way[j], way[k]
			}
		}
		f, want := of(fn("f - - -"), make([]api.Instr, mostCode)...), times(mostCode, "i")
		f.Code[0] = read("draw") // it leads to instruction 1, which leads to the first of way
		want[0] = "."
		at := 1
		for _, to := range way {
			if to != 1 {
				f.Code[at] = api.Instr{Op: api.Jump, A: to}
				at = to
			}
		}
		f.Code[at] = read("panic")
		lay(t, program(f))
		stacksAre(t, program(f), 0, told(strings.Join(want, " ")), api.OK, 0)
		f.Code[at] = read("real")
		stacksAre(t, program(f), 0, typing.Types{}, api.ErrType, at)
	}
}

func TestStacksOfManyIfs(t *testing.T) { // P20.3: ways that are all still open
	f, want := of(fn("f - - -"), make([]api.Instr, mostCode)...), times(mostCode, ".")
	for k := range mostCode / 4 {
		f.Code[2*k], f.Code[2*k+1] = read("draw"), api.Instr{Op: api.If, A: mostCode - 1 - k}
		want[2*k+1] = "i"
	}
	f.Code[mostCode-1] = read("ret")
	holds(t, program(f))
	stacksAre(t, program(f), 0, told(strings.Join(want, " ")), api.OK, 0)
}

func TestHigh(t *testing.T) { // P20.3: of no stacks, of one, of several
	highIs(t, typing.Types{}, 0)
	highIs(t, told("."), 0)
	highIs(t, told("x"), 0)
	highIs(t, told("i"), 1)
	highIs(t, told("icic"), 4)
	highIs(t, told(". i ii i ."), 2)
	highIs(t, told("icicic . c"), 6)
	highIs(t, told(". x c iiiiiii"), 7)
	highIs(t, told(high(60, "i")+" "+high(59, "c")), 60)
	for _, p := range programs() {
		for f := range p.Funcs {
			x, _, _ := typing.Stacks(p, f)
			want := 0
			for _, st := range x.Of {
				if len(st) > want {
					want = len(st)
				}
			}
			highIs(t, x, want)
		}
	}
}

func TestAt(t *testing.T) { // P20.3: of what is reached its stack, be it nothing; else nothing, and false
	x, _, _ := typing.Stacks(only("draw", "draw", "pair", "jump 5", "nop", "real", "panic"), 0)
	for pc, want := range []string{"", "i", "ii", "c", "x", "c", "i"} {
		atIs(t, x, pc, types(strings.Trim(want, "x")), want != "x")
	}
	for _, pc := range none(7) {
		atIs(t, x, pc, nil, false)
	}
	atIs(t, told("."), 0, nil, true)
	atIs(t, told("x"), 0, nil, false)
	atIs(t, told("x i"), 1, types("i"), true)
	for _, pc := range append(none(1), 0) {
		atIs(t, typing.Types{}, pc, nil, false)
	}
}

func TestTypesThatNoCallMade(t *testing.T) { // R1: lists that are not of one length, and stacks that may not be
	stack := func(s string) [][]api.Type { return [][]api.Type{types(s)} }
	highIs(t, typing.Types{Of: stack("ic")}, 2)
	highIs(t, typing.Types{Reached: []bool{true, true}}, 0)
	highIs(t, typing.Types{Of: stack(high(5000, "?")), Reached: []bool{true}}, 5000)
	for _, x := range []typing.Types{
		{Of: stack("ic")},
		{Of: append(stack("ic"), stack("c")...), Reached: []bool{false}},
		{Reached: []bool{true, true}},
		{Of: stack("ic"), Reached: []bool{false, true, true}},
	} {
		for _, pc := range append(none(3), 0, 1, 2) {
			atIs(t, x, pc, nil, false)
		}
	}
	atIs(t, typing.Types{Of: stack("?0-"), Reached: []bool{true, true}}, 0, types("?0-"), true)
	atIs(t, typing.Types{Of: stack(high(5000, "?")), Reached: []bool{true}}, 0, types(high(5000, "?")), true)
	atIs(t, typing.Types{Of: stack("ic"), Reached: []bool{false}}, 0, nil, false) // it is not reached, whatever lies there
}
