package flow_test

import (
	"slices"
	"testing"

	"inlay/api"
	"inlay/flow"
)

// ready tells an instruction of each kind that can be laid, with that A where it has one.
func ready(op api.Op, a int) api.Instr {
	switch op {
	case api.Push, api.Load, api.Store, api.Jump, api.If, api.Call, api.Defer, api.GetRes, api.SetRes, api.Open, api.Close:
		return api.Instr{Op: op, A: a}
	}
	return api.Instr{Op: op}
}

// kinds tells the kinds of instructions that there are.
func kinds() []api.Op {
	var l []api.Op
	for op := range api.Ops {
		l = append(l, op)
	}
	return l
}

// with tells f, but for instruction pc.
func with(f api.Func, pc int, i api.Instr) api.Func {
	f.Code = slices.Clone(f.Code)
	f.Code[pc] = i
	return f
}

// deep tells a function of n instructions of a kind, all of the last of so many nodes, each in the one ahead: of node k the Resume is n-k.
func deep(n, nodes int, i api.Instr) api.Func {
	f := of(times(n, i))
	var l []body
	for k := 1; k < nodes; k++ {
		l = append(l, body{k - 1, n - k})
	}
	return tabled(f, times(n, nodes-1), l...)
}

func TestNodeOfBareFunctions(t *testing.T) { // P19.1: 0
	for _, f := range []api.Func{bare("ret"), bare("nop", "nop", "ret"), bare("open 1", "close 1", "open 119"), of(times(mostCode, api.Instr{}))} {
		for pc := range f.Code {
			nodeIs(t, f, pc, 0)
		}
		nothing(t, f)
	}
}

func TestNodeByAt(t *testing.T) { // P19.1: that, be it 0 or beyond, whatever the instruction is
	f := tabled(bare("ret"), []int{0})
	nodeIs(t, f, 0, 0)
	f = tabled(bare("nop", "nop", "nop", "nop", "nop"), []int{2, 0, 1, 2, 0}, body{0, 3}, body{1, 4})
	for pc, want := range f.At {
		nodeIs(t, f, pc, want)
	}
	nothing(t, f)
	for _, op := range kinds() {
		g := with(f, 3, ready(op, 1))
		nodeIs(t, g, 3, 2)
		nodeIs(t, g, 4, 0)
	}
	g := of(times(mostCode, api.Instr{}))
	g = tabled(g, nil, times(mostNodes-1, body{0, 1})...)
	for pc := range g.Code {
		g.At = append(g.At, (7*pc+119)%mostNodes)
	}
	lay(t, g)
	for pc := range g.Code {
		nodeIs(t, g, pc, (7*pc+119)%mostNodes)
	}
	nothing(t, g)
}

func TestNextOfEachKind(t *testing.T) { // P19.1: the one behind, but of jump, if, ret, panic and close
	plain := 0
	for _, op := range kinds() {
		for _, a := range []int{0, 1, 3} {
			for _, f := range []api.Func{bare("nop", "nop", "nop", "nop"), tabled(bare("nop", "nop", "nop", "nop"), []int{0, 1, 1, 0}, body{0, 3})} {
				f = with(f, 1, ready(op, a))
				lay(t, f)
				switch op {
				case api.Jump, api.If, api.Ret, api.Panic, api.Close:
				default:
					nextIs(t, f, 1, 2)
					plain++
				}
			}
		}
	}
	if plain != 6*30 {
		t.Errorf("%d instructions go on to the one behind", plain)
	}
}

func TestNextBehindIsThereNone(t *testing.T) { // P19.1: the number behind the last one is told
	for _, op := range kinds() {
		for _, n := range []int{1, 2, 7, mostCode} {
			f := with(of(times(n, api.Instr{})), n-1, ready(op, 0))
			lay(t, f)
			switch op {
			case api.Jump:
				nextIs(t, f, n-1, 0)
			case api.If:
				nextIs(t, f, n-1, n, 0)
			case api.Ret, api.Panic, api.Close:
				nextIs(t, f, n-1)
			default:
				nextIs(t, f, n-1, n)
			}
		}
	}
}

func TestNextOfJump(t *testing.T) { // P19.1: A alone: ahead, back, itself, the one behind, and none there
	for pc := range 5 {
		for _, a := range []int{0, 1, 2, 3, 4, 5, 6, 100, 1998, 1999} {
			f := with(bare("nop", "nop", "nop", "nop", "nop"), pc, api.Instr{Op: api.Jump, A: a})
			lay(t, f)
			nextIs(t, f, pc, a)
			nextIs(t, tabled(f, []int{1, 0, 1, 0, 1}, body{0, 2}), pc, a)
		}
	}
}

func TestNextOfIf(t *testing.T) { // P19.1: the one behind, then A; that once, if it is the one behind
	for pc := range 5 {
		for _, a := range []int{0, 1, 2, 3, 4, 5, 6, 100, 1998, 1999} {
			f := with(bare("nop", "nop", "nop", "nop", "nop"), pc, api.Instr{Op: api.If, A: a})
			want := []int{pc + 1, a}
			if a == pc+1 {
				want = []int{a}
			}
			lay(t, f)
			nextIs(t, f, pc, want...)
			nextIs(t, tabled(f, []int{1, 0, 1, 0, 1}, body{0, 2}), pc, want...)
		}
	}
	f := bare("if 2", "if 2", "if 2", "if 0", "if 1999")
	nextIs(t, f, 0, 1, 2)
	nextIs(t, f, 1, 2)
	nextIs(t, f, 2, 3, 2)
	nextIs(t, f, 3, 4, 0)
	nextIs(t, f, 4, 5, 1999)
}

func TestNextOfWhatEnds(t *testing.T) { // P19.1: of ret and panic none, be they in a body or not
	for _, text := range []string{"ret", "panic"} {
		nextIs(t, bare(text), 0)
		for pc := range 3 {
			f := with(bare("nop", "nop", "nop"), pc, code(text)[0])
			nextIs(t, f, pc)
			nextIs(t, tabled(f, []int{1, 1, 1}, body{0, 2}), pc)
		}
	}
}

func TestNextOfClose(t *testing.T) { // P19.1: the Resume of the node that it names; of 0, and of no node, none
	f := bare("close 0", "close 1", "close 2", "close 3", "close 4", "close 119", "nop")
	for pc := range f.Code[:6] {
		nextIs(t, f, pc) // a Bare function has no nodes
	}
	for _, at := range [][]int{times(7, 0), times(7, 1), times(7, 2), {3, 2, 1, 0, 3, 2, 1}} {
		g := tabled(f, at, body{0, 6}, body{1, 1999}, body{1, 1})
		lay(t, g)
		nextIs(t, g, 0)
		nextIs(t, g, 1, 6)
		nextIs(t, g, 2, 1999)
		nextIs(t, g, 3, 1)
		nextIs(t, g, 4)
		nextIs(t, g, 5)
	}
	g := tabled(f, times(7, 0))
	for pc := range f.Code[:6] {
		nextIs(t, g, pc)
	}
	g = tabled(f, times(7, 0), times(mostNodes-1, body{0, 5})...)
	g.Nodes[mostNodes-1].Resume = 77
	lay(t, g)
	nextIs(t, g, 5, 77)
	nextIs(t, g, 4, 5)
}

func TestCatchOfEachKind(t *testing.T) { // P19.1: of what Raises alone
	for _, op := range kinds() {
		for _, a := range []int{0, 1, 2} {
			f := with(bare("nop", "nop", "nop", "nop"), 1, ready(op, a))
			lay(t, f)
			catchIs(t, f, 1)
			f = tabled(f, []int{0, 2, 0, 0}, body{0, 3}, body{1, 2})
			lay(t, f)
			if slices.Contains(raising(), op) {
				catchIs(t, f, 1, 2, 3)
			} else {
				catchIs(t, f, 1)
			}
			catchIs(t, f, 0)
			catchIs(t, f, 2)
		}
	}
}

func TestCatchWhereNoBodyIs(t *testing.T) { // P19.1: in node 0, and in a Bare function, none
	for _, op := range raising() {
		f := of([]api.Instr{ready(op, 1), {}, {}})
		catchIs(t, f, 0)
		catchIs(t, tabled(f, []int{0, 0, 0}), 0)
		catchIs(t, tabled(f, []int{0, 1, 1}, body{0, 1}), 0)
		catchIs(t, tabled(f, []int{0, 2, 1}, body{0, 1}, body{1, 2}), 0)
	}
}

func TestCatchOfBodies(t *testing.T) { // P19.1: of the instruction's node, and of those above it but 0, in tree.Up's order
	for _, op := range raising() {
		f := of(times(7, ready(op, 3)))
		// 1 and 4 in 0, 2 and 3 in 1, 5 in 4, 6 in 5
		f = tabled(f, []int{0, 1, 2, 3, 4, 5, 6}, body{0, 10}, body{1, 20}, body{1, 5}, body{0, 1999}, body{4, 1}, body{5, 60})
		lay(t, f)
		catchIs(t, f, 0)
		catchIs(t, f, 1, 10)
		catchIs(t, f, 2, 20, 10)
		catchIs(t, f, 3, 5, 10)
		catchIs(t, f, 4, 1999)
		catchIs(t, f, 5, 1, 1999)
		catchIs(t, f, 6, 60, 1, 1999)
	}
}

func TestCatchOfOneResumeTwice(t *testing.T) { // P19.1: it is told of each node
	f := tabled(bare("div", "div", "div", "div"), []int{3, 2, 1, 0}, body{0, 3}, body{1, 3}, body{2, 3})
	lay(t, f)
	catchIs(t, f, 0, 3, 3, 3)
	catchIs(t, f, 1, 3, 3)
	catchIs(t, f, 2, 3)
	catchIs(t, f, 3)
	f = tabled(f, []int{3, 2, 1, 0}, body{0, 2}, body{1, 9}, body{2, 2})
	catchIs(t, f, 0, 2, 9, 2)
}

func TestCatchOfOpenAndClose(t *testing.T) { // P19.1: their own node counts, not the one that they name
	f := tabled(bare("open 1", "open 2", "close 2", "close 1", "open 2", "close 2"), []int{0, 1, 2, 1, 2, 0}, body{0, 4}, body{1, 3})
	lay(t, f)
	catchIs(t, f, 0)
	catchIs(t, f, 1, 4)
	catchIs(t, f, 2, 3, 4)
	catchIs(t, f, 3, 4)
	catchIs(t, f, 4, 3, 4)
	catchIs(t, f, 5)
}

func TestCatchOfManyBodies(t *testing.T) { // P19.1
	f := deep(1000, mostNodes, api.Instr{Op: api.Call})
	lay(t, f)
	var want []int
	for k := mostNodes - 1; k > 0; k-- {
		want = append(want, 1000-k)
	}
	for _, pc := range []int{0, 1, 500, 999} {
		catchIs(t, f, pc, want...)
	}
	f.At[1] = 60
	catchIs(t, f, 1, want[59:]...)
	nothing(t, f)
}

func TestNumbersOfNoInstruction(t *testing.T) { // P19.1: below 0, at the end, and far beyond it
	for _, f := range functions() {
		nothing(t, f)
	}
	f := within()
	for _, pc := range []int{-1, 18, 19, 1999, 2000, least, greatest} {
		if n := flow.Node(f, pc); n != 0 {
			t.Errorf("Node of %d: %d", pc, n)
		}
		nextIs(t, f, pc)
		catchIs(t, f, pc)
	}
}
