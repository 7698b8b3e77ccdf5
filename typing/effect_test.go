package typing_test

import (
	"slices"
	"strings"
	"testing"

	"inlay/api"
	"inlay/instr"
	"inlay/typing"
)

// host tells a program in which each instruction may stand: in function 0, where instruction 0 is of an Inner one.
func host() api.Program {
	f := fn("f ic c ic", "ret", "ret", "ret", "nop")
	f = tabled(f, 0, []int{1, 0, 2, 3}, body{3, 3}, body{1, 2}, body{39, 1})
	return program(
		f, // slots: i c, c, i c
		fn("g icc ci -", "nop", "ret"),
		fn("h - - -", "getres 0", "ret"),
		fn("k i - - ic", "getres 1", "setres 1", "ret"),
		fn("m iiiiiiii icic -", "ret"),
		fn("n c ccc c i", "load 4", "store 4", "setres 0", "ret"),
		fn("o - - - -", "getres 0", "ret"),
	)
}

// hosted tells host, in which instruction 0 of function 0, which is of the Inner function 3, is i.
func hosted(i api.Instr) api.Program {
	p := host()
	p.Funcs[0].Code = slices.Clone(p.Funcs[0].Code)
	p.Funcs[0].Code[0] = i
	return p
}

// read tells the instruction of a text.
func read(s string) api.Instr { return fn("f - - -", s).Code[0] }

// row is an instruction, what it takes, and what it gives, as text.
type row struct{ text, takes, gives string }

// rows tells each kind of instruction, as it stands in host.
func rows() []row {
	return []row{
		{"nop", "", ""},
		{"push 0", "", "i"}, {"push -9223372036854775808", "", "i"},
		{"load 0", "", "i"}, {"load 1", "", "c"}, {"load 2", "", "c"}, {"load 3", "", "i"}, {"load 4", "", "c"},
		{"store 0", "i", ""}, {"store 1", "c", ""}, {"store 2", "c", ""}, {"store 3", "i", ""}, {"store 4", "c", ""},
		{"pop", "i", ""}, {"pop", "c", ""},
		{"dup", "i", "ii"}, {"dup", "c", "cc"},
		{"add", "ii", "i"}, {"sub", "ii", "i"}, {"mul", "ii", "i"}, {"div", "ii", "i"}, {"mod", "ii", "i"},
		{"neg", "i", "i"}, {"less", "ii", "i"}, {"same", "ii", "i"}, {"not", "i", "i"},
		{"pair", "ii", "c"}, {"plus", "cc", "c"}, {"minus", "cc", "c"}, {"times", "cc", "c"},
		{"real", "c", "i"}, {"imag", "c", "i"},
		{"jump 0", "", ""}, {"jump 1999", "", ""}, {"if 0", "i", ""}, {"if 1999", "i", ""},
		{"call 0", "ic", "c"}, {"call 1", "icc", "ci"}, {"call 2", "", ""}, {"call 3", "i", ""}, {"call 4", "iiiiiiii", "icic"}, {"call 5", "c", "ccc"}, {"call 6", "", ""},
		{"defer 0", "ic", ""}, {"defer 1", "icc", ""}, {"defer 2", "", ""}, {"defer 3", "i", ""}, {"defer 4", "iiiiiiii", ""}, {"defer 5", "c", ""}, {"defer 6", "", ""},
		{"ret", "", ""}, {"panic", "i", ""}, {"recover", "", "ii"},
		{"getres 0", "", "i"}, {"getres 1", "", "c"}, {"setres 0", "i", ""}, {"setres 1", "c", ""},
		{"emit", "i", ""}, {"trace", "", ""}, {"draw", "", "i"},
		{"open 1", "", ""}, {"open 2", "", ""}, {"open 3", "", ""}, {"close 1", "", ""}, {"close 2", "", ""}, {"close 3", "", ""},
	}
}

// gives holds the stack that the chapter says is behind an instruction of host.
func gives(t *testing.T, text, st, want string) {
	t.Helper()
	effectIs(t, hosted(read(text)), 0, 0, types(st), types(want), api.OK)
}

// fails holds the error that the chapter says is told of an instruction of host.
func fails(t *testing.T, text, st string, err api.Errno) {
	t.Helper()
	effectIs(t, hosted(read(text)), 0, 0, types(st), nil, err)
}

// high tells a stack's text of n.
func high(n int, s string) string { return strings.Repeat(s, n)[:n] }

func TestHost(t *testing.T) { // P20.1, P20.2: its functions, and all that is asked of each of its instructions
	p := host()
	holds(t, p)
	effects(t, p)
	met := map[api.Op]bool{}
	for _, r := range rows() {
		p := hosted(read(r.text))
		holds(t, p)
		effects(t, p)
		met[read(r.text).Op] = true
	}
	if len(met) != int(api.Ops) {
		t.Errorf("the tests have %d kinds of instructions", len(met))
	}
}

func TestOwnerOfBareFunctions(t *testing.T) { // P20.1: the function itself
	p := host()
	for f := 1; f < len(p.Funcs); f++ {
		for pc := range p.Funcs[f].Code {
			ownerIs(t, p, f, pc, f)
		}
	}
	var many api.Program
	for k := range 40 {
		f := fn(string(rune('a'+k%26))+strings.Repeat("z", k/26)+" - - -", "nop", "open 1", "ret")
		many.Funcs = append(many.Funcs, f)
	}
	lay(t, many)
	for f := range many.Funcs {
		for pc := range 3 {
			ownerIs(t, many, f, pc, f)
		}
	}
	nothing(t, many)
}

func TestOwnerByNodes(t *testing.T) { // P20.1: Func of the instruction's node, be it the function itself, another one, or none there
	p := host()
	for pc, want := range []int{3, 0, 1, 39} {
		ownerIs(t, p, 0, pc, want)
	}
	nothing(t, p)
	f := fn("f - - -", "nop", "nop", "nop", "nop", "nop", "ret")
	f = tabled(f, 2, []int{3, 0, 2, 1, 0, 3}, body{1, 1}, body{2, 1}, body{0, 1})
	p = program(fn("g - - -", "ret"), fn("h - - -", "ret"), f)
	lay(t, p)
	for pc, want := range []int{0, 2, 2, 1, 2, 0} {
		ownerIs(t, p, 2, pc, want)
	}
	p.Funcs[2].Nodes[0].Func = 1 // node 0's Func counts, also where it is another one
	lay(t, p)
	for pc, want := range []int{0, 1, 2, 1, 1, 0} {
		ownerIs(t, p, 2, pc, want)
	}
}

func TestOwnerOfManyNodes(t *testing.T) { // P20.1
	f := of(fn("f - - -"), times(mostCode, api.Instr{})...)
	var l []body
	var at []int
	for k := 1; k < mostNodes; k++ {
		l = append(l, body{k % 40, 1})
	}
	for pc := range mostCode {
		at = append(at, (7*pc+119)%mostNodes)
	}
	p := program(tabled(f, 0, at, l...))
	lay(t, p)
	for pc := range mostCode {
		ownerIs(t, p, 0, pc, at[pc]%40)
	}
}

func TestEffectOfJustWhatItTakes(t *testing.T) { // P20.2: each instruction
	for _, r := range rows() {
		gives(t, r.text, r.takes, r.gives)
	}
}

func TestEffectOfMoreBelow(t *testing.T) { // P20.2: what lies below stays, but of ret, below which nothing may lie
	for _, r := range rows() {
		for _, below := range []string{"i", "c", "ic", "ci", "ccccccccc", "iiiiiiiii", "?", "0i", "-c?"} {
			if r.text == "ret" {
				fails(t, r.text, below, api.ErrStack)
				continue
			}
			gives(t, r.text, below+r.takes, below+r.gives)
		}
	}
}

func TestEffectOfTooLittle(t *testing.T) { // P20.2: ErrStack, also where what is there is of another type
	for _, r := range rows() {
		for n := range len(r.takes) {
			fails(t, r.text, r.takes[len(r.takes)-n:], api.ErrStack)
			if !strings.HasPrefix(r.text, "store") && r.text != "pop" && r.text != "dup" {
				fails(t, r.text, high(n, "i"), api.ErrStack)
				fails(t, r.text, high(n, "c"), api.ErrStack)
				fails(t, r.text, high(n, "?"), api.ErrStack)
			}
		}
	}
}

func TestEffectOfOtherTypes(t *testing.T) { // P20.2: ErrType, at each place of what is taken; pop and dup take any
	for _, r := range rows() {
		for at := range len(r.takes) {
			for _, other := range "ic0?-" {
				st := r.takes[:at] + string(other) + r.takes[at+1:]
				if st == r.takes || r.text == "pop" || r.text == "dup" {
					continue
				}
				fails(t, r.text, st, api.ErrType)
				fails(t, r.text, "ic"+st, api.ErrType)
				fails(t, r.text, high(mostStack, "i")+st, api.ErrType)
			}
		}
	}
	gives(t, "pop", "?", "")
	gives(t, "dup", "c?", "c??")
	gives(t, "dup", "0", "00")
	fails(t, "call 1", "cii", api.ErrType)
	fails(t, "call 1", "cci", api.ErrType)
	fails(t, "defer 1", "iii", api.ErrType)
}

func TestEffectOfHighStacks(t *testing.T) { // P20.2: 60 are fine, more are not, by each instruction
	for _, r := range rows() {
		if r.text == "ret" {
			continue
		}
		for _, below := range []string{"i", "c", "ci"} {
			most := mostStack - len(r.gives)
			gives(t, r.text, high(most, below)+r.takes, high(most, below)+r.gives)
			gives(t, r.text, high(most-1, below)+r.takes, high(most-1, below)+r.gives)
			for _, n := range []int{1, 2, 7, 100, 5000} {
				fails(t, r.text, high(most+n, below)+r.takes, api.ErrStack)
			}
		}
	}
}

func TestEffectUponMoreThanMayBe(t *testing.T) { // P20.2: what is there behind the instruction counts
	gives(t, "pop", high(61, "i"), high(60, "i"))
	fails(t, "pop", high(62, "i"), api.ErrStack)
	gives(t, "add", high(61, "i"), high(60, "i"))
	gives(t, "call 4", high(64, "i"), high(56, "i")+"icic")
	fails(t, "call 4", high(65, "i"), api.ErrStack)
	gives(t, "defer 4", high(68, "i"), high(60, "i"))
	fails(t, "nop", high(61, "c"), api.ErrStack)
	fails(t, "neg", high(61, "i"), api.ErrStack)
	fails(t, "ret", high(61, "i"), api.ErrStack)
}

func TestEffectOfResults(t *testing.T) { // P20.2: a call with several of them: 60, and more
	gives(t, "call 5", high(57, "i")+"c", high(57, "i")+"ccc")
	fails(t, "call 5", high(58, "i")+"c", api.ErrStack)
	gives(t, "call 4", high(56, "c")+high(8, "i"), high(56, "c")+"icic")
	fails(t, "call 4", high(57, "c")+high(8, "i"), api.ErrStack)
	gives(t, "defer 4", high(57, "c")+high(8, "i"), high(57, "c"))
	gives(t, "recover", high(58, "c"), high(58, "c")+"ii")
	fails(t, "recover", high(59, "c"), api.ErrStack)
	gives(t, "dup", high(59, "c"), high(60, "c"))
	fails(t, "dup", high(60, "c"), api.ErrStack)
	gives(t, "getres 1", high(59, "i"), high(59, "i")+"c")
	fails(t, "getres 1", high(60, "i"), api.ErrStack)
	gives(t, "load 0", high(59, "c"), high(59, "c")+"i")
	fails(t, "load 0", high(60, "c"), api.ErrStack)
}

func TestEffectOfSlots(t *testing.T) { // P20.2: of each kind, up to the last one
	for _, a := range none(5) {
		for _, st := range []string{"", "i", "c", high(60, "i"), high(61, "c")} {
			for _, op := range []api.Op{api.Load, api.Store} {
				effectIs(t, hosted(api.Instr{Op: op, A: a}), 0, 0, types(st), nil, api.ErrArg)
			}
		}
	}
	for _, x := range []struct{ head, slots string }{
		{"f - - -", ""}, {"f i - -", "i"}, {"f - c -", "c"}, {"f - - i", "i"}, {"f ic cc -", "iccc"}, {"f - ic i", "ici"}, {"f c - i", "ci"}, {"f iiiiiiii cccc " + high(244, "ic"), "iiiiiiiicccc" + high(244, "ic")},
	} {
		f := fn(x.head)
		for a := range 257 {
			p := program(of(f, api.Instr{Op: api.Load, A: a}, api.Instr{Op: api.Store, A: a}))
			if a >= len(x.slots) {
				effectIs(t, p, 0, 0, nil, nil, api.ErrArg)
				effectIs(t, p, 0, 1, types("ic"), nil, api.ErrArg)
				continue
			}
			slot, other := x.slots[a:a+1], string("ci"[strings.Index("ic", x.slots[a:a+1])])
			lay(t, p)
			effectIs(t, p, 0, 0, types("c"), types("c"+slot), api.OK)
			effectIs(t, p, 0, 1, types("c"+slot), types("c"), api.OK)
			effectIs(t, p, 0, 1, types(slot+other), nil, api.ErrType)
			effectIs(t, p, 0, 1, nil, nil, api.ErrStack)
		}
	}
}

func TestEffectOfNothing(t *testing.T) { // P20.2: store, pop, dup of nothing
	for _, text := range []string{"store 0", "store 1", "store 2", "store 3", "store 4", "pop", "dup"} {
		fails(t, text, "", api.ErrStack)
	}
}

func TestEffectOfOtherSlotTypes(t *testing.T) { // P20.2: store: ErrType
	fails(t, "store 0", "c", api.ErrType)
	fails(t, "store 1", "i", api.ErrType)
	fails(t, "store 2", "ci", api.ErrType)
	fails(t, "store 3", "ic", api.ErrType)
	fails(t, "store 4", "i", api.ErrType)
	fails(t, "store 4", "0", api.ErrType)
	fails(t, "store 4", high(70, "i"), api.ErrType)
}

func TestEffectOfCalls(t *testing.T) { // P20.2: of functions that there are, be they Inner or not, and of such that there are not
	for _, a := range none(7) {
		for _, st := range []string{"", "i", "cic", high(60, "i"), high(61, "c")} {
			for _, op := range []api.Op{api.Call, api.Defer} {
				effectIs(t, hosted(api.Instr{Op: op, A: a}), 0, 0, types(st), nil, api.ErrCall)
			}
		}
	}
	p := program(fn("f c i -", "call 0", "defer 0", "call 1"))
	lay(t, p)
	effectIs(t, p, 0, 0, types("ic"), types("ii"), api.OK)
	effectIs(t, p, 0, 1, types("ic"), types("i"), api.OK)
	effectIs(t, p, 0, 2, types("ic"), nil, api.ErrCall)
	effectIs(t, p, 0, 0, types("i"), nil, api.ErrType)
	effectIs(t, p, 0, 1, nil, nil, api.ErrStack)
}

func TestEffectOfResultsOfOthers(t *testing.T) { // P20.2: getres and setres: ErrPlace, if the Owner is not there, not Inner, or has no such Outer
	get, set := func(a int) api.Instr { return api.Instr{Op: api.GetRes, A: a} }, func(a int) api.Instr { return api.Instr{Op: api.SetRes, A: a} }
	stacks := []string{"", "i", "c", "cic", high(60, "i"), high(61, "c")}
	wrong := func(p api.Program, f, pc int) {
		t.Helper()
		for _, st := range stacks {
			effectIs(t, p, f, pc, types(st), nil, api.ErrPlace)
		}
	}
	for a := range 4 {
		p := host()
		p.Funcs[0].Code = []api.Instr{get(a), get(a), get(a), get(a)} // of k; of f, which is not Inner; of g, nor is that; of none
		for _, f := range []int{1, 2, 4, 6} {
			p.Funcs[f] = of(p.Funcs[f], get(a), set(a)) // none of them is Inner, but the last one, which has no Outer
			lay(t, p)
			wrong(p, f, 0)
			wrong(p, f, 1)
		}
		for _, code := range [][]api.Instr{{get(a), get(a), get(a), get(a)}, {set(a), set(a), set(a), set(a)}} {
			p.Funcs[0].Code = code
			wrong(p, 0, 1)
			wrong(p, 0, 2)
			wrong(p, 0, 3)
			if a > 1 {
				wrong(p, 0, 0)
			}
		}
	}
	for _, a := range none(2) {
		wrong(hosted(get(a)), 0, 0)
		wrong(hosted(set(a)), 0, 0)
	}
	p := program(fn("a - - -", "ret"), fn("b i c - cic", "getres 0", "getres 1", "getres 2", "getres 3", "setres 0", "setres 1", "setres 2", "setres 3"))
	lay(t, p)
	for pc, want := range []string{"ic", "ii", "ic"} {
		effectIs(t, p, 1, pc, types("i"), types(want), api.OK)
		top := want[1:]
		effectIs(t, p, 1, 4+pc, types("c"+top), types("c"), api.OK)
		effectIs(t, p, 1, 4+pc, types(top+map[string]string{"i": "c", "c": "i"}[top]), nil, api.ErrType)
		effectIs(t, p, 1, 4+pc, nil, nil, api.ErrStack)
	}
	wrong(p, 1, 3)
	wrong(p, 1, 7)
}

func TestEffectOfAnOuterOfWhatIsNotInner(t *testing.T) { // P20.2: ErrPlace, though such a function can't be laid
	p := program(fn("f - - - ic", "getres 0", "setres 1"))
	p.Funcs[0].Inner = false
	effectIs(t, p, 0, 0, nil, nil, api.ErrPlace)
	effectIs(t, p, 0, 1, types("c"), nil, api.ErrPlace)
}

func TestEffectHangsOnTheOwner(t *testing.T) { // P20.1, P20.2: not on whether the function itself is Inner
	f := tabled(fn("f - - - ii", "getres 0", "getres 0", "getres 0"), 0, []int{0, 1, 2}, body{1, 1}, body{2, 1})
	p := program(f, fn("g - - -", "ret"), fn("h - - - c", "ret"))
	lay(t, p)
	effectIs(t, p, 0, 0, nil, types("i"), api.OK)
	effectIs(t, p, 0, 1, nil, nil, api.ErrPlace)
	effectIs(t, p, 0, 2, nil, types("c"), api.OK)
	p.Funcs[0].Nodes[0].Func = 2
	effectIs(t, p, 0, 0, nil, types("c"), api.OK)
	p.Funcs[0].Nodes, p.Funcs[0].At, p.Funcs[0].Live = nil, nil, nil
	lay(t, p)
	for pc := range 3 {
		effectIs(t, p, 0, pc, nil, types("i"), api.OK)
	}
}

func TestEffectOfRet(t *testing.T) { // P20.2: ErrStack, if something is there
	gives(t, "ret", "", "")
	for _, st := range []string{"i", "c", "ic", "?", high(60, "i"), high(61, "c")} {
		fails(t, "ret", st, api.ErrStack)
	}
}

func TestEffectOfOpenAndClose(t *testing.T) { // P20.2: ErrPlace in a Bare function, of a node that there is not, and of 0
	for _, op := range []api.Op{api.Open, api.Close} {
		for _, a := range append(none(4), 0) {
			for _, st := range []string{"", "i", high(60, "i"), high(61, "c"), high(500, "c")} {
				effectIs(t, hosted(api.Instr{Op: op, A: a}), 0, 0, types(st), nil, api.ErrPlace)
			}
		}
		for a := range mostNodes {
			p := program(of(fn("f - - -"), api.Instr{Op: op, A: a}))
			lay(t, p)
			effectIs(t, p, 0, 0, nil, nil, api.ErrPlace)
			effectIs(t, p, 0, 0, types("ic"), nil, api.ErrPlace)
			one := tabled(p.Funcs[0], 0, []int{0})
			effectIs(t, program(one), 0, 0, nil, nil, api.ErrPlace)
			full := tabled(p.Funcs[0], 0, []int{0}, times(mostNodes-1, body{0, 1})...)
			lay(t, program(full))
			if a > 0 {
				effectIs(t, program(full), 0, 0, types("ic"), types("ic"), api.OK)
			} else {
				effectIs(t, program(full), 0, 0, types("ic"), nil, api.ErrPlace)
			}
		}
	}
}

func TestEffectsFirstError(t *testing.T) { // P20.2: where several apply, the one that the chapter names first
	far := api.Instr{Op: api.Store, A: 5}
	for _, st := range []string{"", "i", high(70, "c")} { // no slot; nothing there, another type, too many
		effectIs(t, hosted(far), 0, 0, types(st), nil, api.ErrArg)
	}
	fails(t, "store 1", high(70, "i"), api.ErrType)  // another type, and too many then
	fails(t, "store 1", high(70, "c"), api.ErrStack) // too many then
	effectIs(t, hosted(read("call 7")), 0, 0, nil, nil, api.ErrCall)
	effectIs(t, hosted(read("call 7")), 0, 0, types(high(70, "i")), nil, api.ErrCall)
	fails(t, "call 1", "cc", api.ErrStack)             // fine ones, but too little
	fails(t, "call 1", "ii", api.ErrStack)             // another type, and too little
	fails(t, "call 1", "ici", api.ErrType)             // on top
	fails(t, "call 1", "ccc", api.ErrType)             // deepest
	fails(t, "call 1", high(70, "i"), api.ErrType)     // another type, and too many then
	fails(t, "call 4", high(7, "c"), api.ErrStack)     // each of another type, and too little
	fails(t, "add", "c", api.ErrStack)                 // another type, and too little
	fails(t, "plus", "ii", api.ErrType)                // both
	fails(t, "plus", high(70, "i"), api.ErrType)       // both, and too many then
	fails(t, "setres 2", "", api.ErrPlace)             // nowhere, and too little
	fails(t, "setres 0", "", api.ErrStack)             // too little
	fails(t, "setres 0", "c", api.ErrType)             // another type
	fails(t, "setres 0", high(70, "c"), api.ErrType)   // another type, and too many then
	fails(t, "getres 2", high(60, "c"), api.ErrPlace)  // nowhere, and too many then
	fails(t, "open 0", high(61, "c"), api.ErrPlace)    // nowhere, and too many then
	fails(t, "open 1", high(61, "c"), api.ErrStack)    // too many then
	fails(t, "close 119", high(61, "c"), api.ErrPlace) // nowhere, and too many then
}

func TestEffectIsOfItsInstruction(t *testing.T) { // P20.2: of that of that function, wherever it stands; where a jump leads does not count
	p := program(fn("f - - -", "push 1", "neg", "pair", "jump 1999", "if 1999"), fn("g c c -", "load 0", "real", "dup", "pair", "store 1"))
	lay(t, p)
	for f, l := range [][]string{{"iii", "ii", "c", "ii", "i"}, {"iic", "", "", "c", ""}} {
		for pc, want := range l {
			err := api.OK
			if want == "" {
				err = api.ErrType
				if pc == 2 {
					want, err = "iii", api.OK
				}
			}
			effectIs(t, p, f, pc, types("ii"), types(want), err)
		}
	}
	effectIs(t, p, 1, 1, types("ic"), types("ii"), api.OK)
	effectIs(t, p, 1, 4, types("ic"), types("i"), api.OK)
}

func TestEffectOfEachInstruction(t *testing.T) { // P20.2: with each A that may be, and others, upon many stacks
	for op := range api.Ops {
		for _, a := range []int{0, 1, 2, 3, 4, 5, 6, 7, 39, 119, 255} {
			i := api.Instr{Op: op, A: a}
			if !instr.Right(i) {
				continue
			}
			effects(t, hosted(i))
		}
	}
}

func TestEffectOfWhatIsNoInstruction(t *testing.T) { // R1: no call panics, and what is told is no more than what is there
	for _, op := range []api.Op{-1, api.Op(least), api.Ops, api.Ops + 1, api.Op(greatest)} {
		for _, st := range tried() {
			typing.Effect(hosted(api.Instr{Op: op, A: 1}), 0, 0, st)
		}
	}
}
