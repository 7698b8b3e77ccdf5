package flow_test

import (
	"slices"
	"testing"

	"inlay/api"
	"inlay/flow"
)

func TestWithin(t *testing.T) { // P19.2: no instruction leads to where there is none
	for _, f := range []api.Func{
		bare("ret"), bare("panic"), bare("jump 0"), bare("nop", "ret"), bare("jump 1", "jump 0"), bare("if 0", "ret"), bare("if 1", "ret"),
		bare("close 0"), bare("close 1"), // which lead nowhere
		tabled(bare("close 1", "ret"), []int{0, 0}, body{0, 1}),
		tabled(bare("nop", "ret"), []int{1, 1}, body{0, 1}),
		tabled(bare("div", "ret"), []int{0, 0}, body{0, 1999}), // which nothing comes to
		within(),
	} {
		lay(t, f)
		withinIs(t, f, true)
	}
}

func TestWithinOfWaysOut(t *testing.T) { // P19.2: each by itself, just behind the last one and far beyond
	for _, f := range []api.Func{
		bare("nop"), bare("nop", "nop"), bare("ret", "nop"),
		bare("jump 1"), bare("jump 2"), bare("jump 1999"),
		bare("nop", "jump 2", "ret", "jump 4"), bare("jump 4", "nop", "nop", "ret"), bare("jump 1999", "ret"),
		bare("if 0"), bare("if 1"), bare("if 2", "ret"), bare("if 3", "ret"), bare("if 1999", "ret"), bare("ret", "if 0"),
	} {
		lay(t, f)
		withinIs(t, f, false)
	}
}

func TestWithinOfTheLast(t *testing.T) { // P19.2: what goes on behind it leads out
	for op := range api.Ops {
		for _, n := range []int{1, 2, 9} {
			f := with(of(times(n, api.Instr{})), n-1, ready(op, 0))
			withinIs(t, f, slices.Contains([]api.Op{api.Jump, api.Ret, api.Panic, api.Close}, op))
		}
	}
}

func TestWithinOfResumes(t *testing.T) { // P19.2: of Next, and of Catch, each by itself
	for _, x := range []struct {
		resume int
		want   bool
	}{{1, true}, {2, true}, {3, true}, {4, false}, {5, false}, {1999, false}} {
		f := tabled(bare("nop", "close 1", "nop", "ret"), []int{0, 0, 0, 0}, body{0, x.resume})
		lay(t, f)
		withinIs(t, f, x.want) // by Next alone: close is of node 0
		for _, op := range raising() {
			f := with(bare("nop", "nop", "nop", "ret"), 1, ready(op, 0))
			f = tabled(f, []int{0, 1, 0, 0}, body{0, x.resume})
			lay(t, f)
			withinIs(t, f, x.want) // by Catch alone
			f = tabled(f, []int{0, 2, 0, 0}, body{0, x.resume}, body{1, 1})
			withinIs(t, f, x.want) // by that of a node above
		}
		f = tabled(bare("nop", "nop", "nop", "ret"), []int{1, 1, 1, 0}, body{0, x.resume})
		withinIs(t, f, true) // by nothing: a body in which nothing raises
		f = tabled(bare("open 1", "nop", "nop", "ret"), []int{0, 1, 1, 0}, body{0, x.resume})
		withinIs(t, f, true) // an open does not count: neither Next nor Catch tells where its body ends
	}
}

func TestWithinOfWhatIsNotReached(t *testing.T) { // P19.2: it counts too
	for _, x := range []struct {
		f  api.Func
		pc int // it leads out, and is not reached
	}{
		{bare("ret", "jump 9"), 1},
		{bare("ret", "nop"), 1},
		{bare("ret", "if 9", "ret"), 1},
		{bare("ret", "if 0"), 1},
		{bare("jump 2", "jump 3", "ret"), 1},
		{bare("jump 0", "jump 1", "nop"), 2},
		{tabled(bare("ret", "close 1"), []int{0, 0}, body{0, 2}), 1},
		{tabled(bare("ret", "div", "ret"), []int{0, 1, 0}, body{0, 3}), 1},
	} {
		lay(t, x.f)
		if flow.Reach(x.f)[x.pc] {
			t.Errorf("instruction %d of %s is reached", x.pc, show(x.f))
		}
		withinIs(t, x.f, false)
	}
	for k := range 20 { // at each place
		f := of(times(20, api.Instr{Op: api.Ret}))
		withinIs(t, f, true)
		withinIs(t, with(f, k, api.Instr{Op: api.Jump, A: 20}), false)
		withinIs(t, with(f, k, api.Instr{Op: api.Jump, A: 19}), true)
	}
}

func TestWithinOfMany(t *testing.T) { // P19.2
	f := of(times(mostCode, api.Instr{Op: api.If, A: mostCode - 1}))
	withinIs(t, f, false)
	f = with(f, mostCode-1, api.Instr{Op: api.Ret})
	lay(t, f)
	withinIs(t, f, true)
	withinIs(t, deep(mostCode, mostNodes, api.Instr{Op: api.Panic}), true)
}

func TestReach(t *testing.T) { // P19.2: from the first one
	reachIs(t, bare("ret"), 0)
	reachIs(t, bare("nop"), 0)
	reachIs(t, bare("jump 0"), 0)
	reachIs(t, bare("jump 1999"), 0)
	reachIs(t, bare("nop", "nop", "ret"), 0, 1, 2)
	reachIs(t, bare("ret", "nop", "ret"), 0)
	reachIs(t, bare("panic", "nop", "ret"), 0)
	reachIs(t, bare("nop", "panic", "ret", "nop"), 0, 1)
	reachIs(t, bare("close 0", "nop"), 0)
	reachIs(t, bare("close 1", "nop"), 0)
	reachIs(t, bare("jump 2", "ret", "jump 1"), 0, 1, 2)                                // back
	reachIs(t, bare("jump 3", "ret", "ret", "jump 5", "ret", "jump 1"), 0, 1, 3, 5)     // ahead and back
	reachIs(t, bare("nop", "jump 0", "nop", "ret"), 0, 1)                               // round
	reachIs(t, bare("jump 1", "jump 2", "jump 2", "jump 1"), 0, 1, 2)                   // itself
	reachIs(t, bare("ret", "jump 2", "jump 1"), 0)                                      // a loop that nothing leads into
	reachIs(t, bare("jump 4", "nop", "if 1", "jump 2", "ret", "jump 1"), 0, 4)          // several such
	reachIs(t, bare("jump 2", "jump 0", "jump 4", "jump 2", "ret"), 0, 2, 4)            // those that lead into what is reached
	reachIs(t, bare("if 3", "ret", "ret", "ret"), 0, 1, 3)                              // both ways of an if
	reachIs(t, bare("nop", "nop", "if 1", "ret", "ret"), 0, 1, 2, 3)                    // one of them back
	reachIs(t, bare("jump 3", "ret", "nop", "if 1", "ret"), 0, 1, 3, 4)                 // both of them new
	reachIs(t, bare("if 1", "ret", "ret"), 0, 1)                                        // both of them one
	reachIs(t, bare("if 0", "ret", "ret"), 0, 1)                                        // itself
	reachIs(t, bare("if 9", "jump 3", "nop", "if 1999"), 0, 1, 3)                       // ways to where there is none
	reachIs(t, bare("call 3", "defer 3", "open 0", "div", "ret", "nop"), 0, 1, 2, 3, 4) // which lead behind
}

func TestReachBehindEachKind(t *testing.T) { // P19.2: all but jump, ret, panic and close go on behind
	for op := range api.Ops {
		f := with(bare("nop", "nop", "ret"), 0, ready(op, 0))
		if slices.Contains([]api.Op{api.Jump, api.Ret, api.Panic, api.Close}, op) {
			reachIs(t, f, 0)
		} else {
			reachIs(t, f, 0, 1, 2)
		}
	}
}

func TestReachByClose(t *testing.T) { // P19.2: by Next: the Resume of the node that it names
	f := tabled(bare("close 1", "nop", "ret", "ret"), []int{0, 0, 0, 0}, body{0, 2})
	reachIs(t, f, 0, 2)
	reachIs(t, tabled(f, []int{0, 0, 0, 0}, body{0, 1}), 0, 1, 2)
	reachIs(t, tabled(f, []int{0, 0, 0, 0}, body{0, 4}), 0)
	reachIs(t, tabled(f, []int{0, 0, 0, 0}), 0)
	reachIs(t, tabled(f, []int{0, 0, 0, 0}, body{0, 3}, body{1, 1}), 0, 3)
}

func TestReachByCatch(t *testing.T) { // P19.2: alone, of each instruction that Raises, that is reached
	for _, op := range kinds() {
		i := ready(op, 0)
		f := of(append([]api.Instr{i}, code("ret", "ret", "ret", "ret")...))
		f = tabled(f, []int{2, 0, 0, 0, 0}, body{0, 3}, body{1, 4})
		lay(t, f)
		want := []int{0}
		if !slices.Contains([]api.Op{api.Jump, api.Ret, api.Panic, api.Close}, op) {
			want = append(want, 1)
		}
		if slices.Contains(raising(), op) {
			want = append(want, 3, 4)
		}
		reachIs(t, f, want...)
		f = tabled(f, []int{0, 0, 0, 0, 0}, body{0, 3}, body{1, 4})
		reachIs(t, f, slices.DeleteFunc(want, func(pc int) bool { return pc > 1 })...)
	}
	f := tabled(bare("ret", "div", "ret", "ret"), []int{0, 1, 0, 0}, body{0, 3})
	reachIs(t, f, 0) // what is not reached raises nothing
	f = tabled(bare("jump 2", "ret", "panic", "ret", "ret"), []int{0, 0, 1, 0, 0}, body{0, 4})
	reachIs(t, f, 0, 2, 4)
	f = tabled(bare("panic", "ret", "panic", "ret", "panic", "ret"), []int{1, 0, 3, 0, 2, 0}, body{0, 4}, body{0, 2}, body{0, 5})
	reachIs(t, f, 0, 2, 4, 5) // behind several others
}

func TestReachByOpen(t *testing.T) { // P19.2: by the Resume of the node that it names, if that is not 0
	f := tabled(bare("open 1", "ret", "ret", "ret"), []int{0, 0, 0, 0}, body{0, 3})
	reachIs(t, f, 0, 1, 3)
	reachIs(t, tabled(f, []int{0, 0, 0, 0}, body{0, 4}), 0, 1)
	reachIs(t, tabled(f, []int{0, 0, 0, 0}, body{0, 2}, body{0, 3}), 0, 1, 2)
	reachIs(t, tabled(f, []int{0, 0, 0, 0}), 0, 1) // no such node
	reachIs(t, bare("open 1", "ret", "ret", "ret"), 0, 1)
	reachIs(t, tabled(bare("open 0", "ret", "ret", "ret"), []int{0, 0, 0, 0}, body{0, 3}), 0, 1) // 0 counts for nothing
	reachIs(t, tabled(bare("nop", "open 0", "jump 1", "ret"), []int{0, 0, 0, 0}, body{0, 3}), 0, 1, 2)
	reachIs(t, tabled(bare("ret", "open 1", "ret", "ret"), []int{0, 0, 0, 0}, body{0, 3}), 0) // it is not reached itself
	reachIs(t, tabled(bare("jump 2", "open 1", "ret", "ret"), []int{0, 0, 0, 0}, body{0, 1}), 0, 2)
	reachIs(t, tabled(bare("open 1", "jump 4", "ret", "open 3", "open 2", "ret", "ret", "ret"), times(8, 0), body{0, 3}, body{0, 6}, body{0, 7}), 0, 1, 3, 4, 5, 6, 7)
	reachIs(t, tabled(bare("close 1", "ret", "nop", "ret"), []int{0, 0, 0, 0}, body{0, 3}), 0, 3) // a close is by Next
	for _, op := range kinds() {
		if op == api.Open || op == api.Close {
			continue
		}
		f := tabled(of([]api.Instr{ready(op, 1), {Op: api.Ret}, {Op: api.Ret}}), []int{0, 0, 0}, body{0, 2})
		if flow.Reach(f)[2] {
			t.Errorf("Reach by %d: as by an open", op)
		}
	}
}

// chain tells n jumps, of which each is led to by one alone: the k-th one of way jumps to the next one of it; the last one is a ret.
func chain(n int, way []int) api.Func {
	f := of(times(n, api.Instr{Op: api.Ret}))
	for k := range len(way) - 1 {
		f.Code[way[k]] = api.Instr{Op: api.Jump, A: way[k+1]}
	}
	return f
}

func TestReachOfLongChains(t *testing.T) { // P19.2: whatever the order in which instructions lead to each other
	for _, n := range []int{2, 3, 10, 63, 500, mostCode} {
		var falling, odd []int
		for k := range n {
			falling = append(falling, n-k)
			odd = append(odd, []int{k/2 + 1, n - k/2 - 1}[k%2])
		}
		falling[0] = 0
		odd = append([]int{0}, odd[:n-1]...)
		for _, way := range [][]int{falling, odd} {
			f := chain(n, way)
			lay(t, f)
			reachesAll(t, f)
			f = chain(n, way[:n/2+1]) // a ret in the middle: what stands behind it in the chain is not reached
			reachIs(t, f, way[:n/2+1]...)
		}
		d := dice(n)
		way := []int{0}
		for k := 1; k < n; k++ {
			way = slices.Insert(way, 1+d.roll(k), k)
		}
		reachesAll(t, chain(n, way))
		for _, last := range []int{1, n / 3, n - 1} {
			reachIs(t, chain(n, way[:last+1]), way[:last+1]...)
		}
	}
}

func TestReachOfChainsOfIfs(t *testing.T) { // P19.2: ways that are found only behind several others
	f := of(times(300, api.Instr{Op: api.Ret}))
	f.Code[0] = api.Instr{Op: api.Jump, A: 298}
	want := []int{0, 1}
	for pc := 4; pc <= 298; pc += 3 { // an if each, which leads to the one ahead of it, and to a ret
		f.Code[pc] = api.Instr{Op: api.If, A: pc - 3}
		want = append(want, pc, pc+1)
	}
	lay(t, f)
	reachIs(t, f, want...)
}

func TestReachOfChainsOfBodies(t *testing.T) { // P19.2: by Catch, by close, and by open, told against the order of the nodes
	for _, op := range []api.Op{api.Panic, api.Close, api.Open} {
		f := of(times(2*mostNodes, api.Instr{Op: api.Ret}))
		f = tabled(f, times(2*mostNodes, 0))
		f.Code[0] = api.Instr{Op: api.Jump, A: 2*mostNodes - 2}
		want := []int{0}
		for n := 1; n < mostNodes; n++ {
			pc := 2 * n
			f.Nodes = append(f.Nodes, api.Node{Resume: max(pc-2, 1)})
			f.Code[pc] = ready(op, n)
			if op == api.Panic {
				f.At[pc] = n
			}
			want = append(want, pc)
			if op == api.Open {
				want = append(want, pc+1)
			}
		}
		lay(t, f)
		reachIs(t, f, append(want, 1)...)
	}
}

func TestReachOfMany(t *testing.T) { // P19.2: as many as may be, in as many bodies
	for _, i := range []api.Instr{{Op: api.Call}, {Op: api.Open, A: 119}, {Op: api.Div}, {}, {Op: api.If, A: 1999}, {Op: api.If}} {
		f := deep(mostCode, mostNodes, i)
		lay(t, f)
		reachesAll(t, f)
		reachesAll(t, of(times(mostCode, i)))
	}
	f := deep(mostCode, mostNodes, api.Instr{Op: api.Close, A: 119})
	want := []int{0}
	for k := 1; k < mostNodes; k++ {
		want = append(want, mostCode-k)
	}
	reachIs(t, f, want...)
}

func TestStarts(t *testing.T) { // P19.2: the first one, where ways lead to, and what stands behind some
	startsAre(t, bare("ret"), 0)
	startsAre(t, bare("nop", "nop", "ret"), 0)
	startsAre(t, bare("nop", "add", "load 0", "call 0", "defer 0", "emit", "div", "open 0", "nop"), 0)
	startsAre(t, bare("nop", "jump 3", "nop", "nop"), 0, 2, 3)
	startsAre(t, bare("nop", "nop", "jump 1", "nop", "nop"), 0, 1, 3)
	startsAre(t, bare("nop", "jump 1", "nop"), 0, 1, 2)
	startsAre(t, bare("nop", "jump 2", "nop"), 0, 2)
	startsAre(t, bare("nop", "if 4", "nop", "nop", "nop", "nop"), 0, 2, 4)
	startsAre(t, bare("nop", "nop", "if 1", "nop", "nop"), 0, 1, 3)
	startsAre(t, bare("nop", "if 2", "nop", "nop"), 0, 2)
	startsAre(t, bare("nop", "ret", "nop", "nop"), 0, 2)
	startsAre(t, bare("nop", "panic", "nop", "nop"), 0, 2)
	startsAre(t, bare("nop", "close 0", "nop", "nop"), 0, 2)
	startsAre(t, bare("nop", "close 9", "nop", "nop"), 0, 2)
	startsAre(t, bare("ret", "ret", "ret"), 0, 1, 2)
	startsAre(t, bare("jump 0"), 0)
	startsAre(t, bare("nop", "jump 0"), 0)
}

func TestStartsBehindEachKind(t *testing.T) { // P19.2: behind a jump, an if, a ret, a panic and a close alone
	for op := range api.Ops {
		f := with(bare("nop", "nop", "nop", "nop"), 1, ready(op, 0))
		if slices.Contains([]api.Op{api.Jump, api.If, api.Ret, api.Panic, api.Close}, op) {
			startsAre(t, f, 0, 2)
		} else {
			startsAre(t, f, 0)
		}
		startsAre(t, with(bare("nop", "nop"), 1, ready(op, 0)), 0) // nothing stands behind the last one
		startsAre(t, of([]api.Instr{ready(op, 0)}), 0)
	}
}

func TestStartsWhereKindsLead(t *testing.T) { // P19.2: by A of a jump and an if, by the Resume of an open's node, and by nothing else's
	for op := range api.Ops {
		f := tabled(with(bare("nop", "nop", "nop", "nop", "nop", "nop", "nop"), 1, ready(op, 3)), times(7, 0), body{0, 6}, body{0, 6}, body{0, 5})
		want := []int{0}
		switch op {
		case api.Jump, api.If:
			want = []int{0, 2, 3}
		case api.Ret, api.Panic, api.Close:
			want = []int{0, 2}
		case api.Open:
			want = []int{0, 5}
		}
		if op != api.GetRes && op != api.SetRes {
			lay(t, f)
		}
		startsAre(t, f, want...)
	}
}

func TestStartsByOpen(t *testing.T) { // P19.2: its Resume; of 0, and of no node, none
	f := bare("nop", "open 2", "nop", "nop", "nop")
	startsAre(t, f, 0)
	startsAre(t, tabled(f, times(5, 0)), 0)
	startsAre(t, tabled(f, times(5, 0), body{0, 4}), 0)
	startsAre(t, tabled(f, times(5, 0), body{0, 4}, body{0, 3}), 0, 3)
	startsAre(t, tabled(f, times(5, 0), body{0, 4}, body{1, 2}), 0, 2)
	startsAre(t, tabled(f, times(5, 0), body{0, 4}, body{1, 5}), 0)
	startsAre(t, tabled(f, times(5, 0), body{0, 4}, body{1, 1999}), 0)
	startsAre(t, tabled(bare("nop", "open 0", "nop", "nop"), times(4, 0), body{0, 3}), 0)
}

func TestStartsByCatch(t *testing.T) { // P19.2: of each instruction that Raises, by each node above it
	for _, op := range kinds() {
		f := of(append([]api.Instr{ready(op, 0)}, code("nop", "nop", "nop", "nop", "nop")...))
		want := []int{0}
		if slices.Contains([]api.Op{api.Jump, api.If, api.Ret, api.Panic, api.Close}, op) {
			want = append(want, 1)
		}
		startsAre(t, tabled(f, []int{0, 1, 1, 2, 3, 3}, body{0, 5}, body{1, 3}, body{0, 2}), want...)
		if slices.Contains(raising(), op) {
			want = append(want, 3, 5)
		}
		startsAre(t, tabled(f, []int{2, 0, 0, 0, 0, 0}, body{0, 5}, body{1, 3}, body{0, 2}), want...)
		startsAre(t, tabled(f, []int{2, 0, 0, 0, 0, 0}, body{0, 6}, body{1, 1999}), slices.DeleteFunc(want, func(pc int) bool { return pc > 1 })...)
	}
}

func TestStartsOfClose(t *testing.T) { // P19.2: its own node counts, by Catch; where it goes on is none by itself
	f := bare("nop", "close 1", "nop", "nop", "nop")
	startsAre(t, tabled(f, times(5, 0), body{0, 4}), 0, 2)
	startsAre(t, tabled(f, []int{0, 1, 0, 0, 0}, body{0, 4}), 0, 2, 4)
	startsAre(t, tabled(f, []int{0, 2, 0, 0, 0}, body{0, 4}, body{0, 3}), 0, 2, 3)
}

func TestStartsOnceEach(t *testing.T) { // P19.2: however many lead there, rising
	f := bare("if 4", "if 4", "jump 4", "jump 4", "jump 4", "jump 1", "if 6", "ret", "jump 4", "nop")
	startsAre(t, f, 0, 1, 2, 3, 4, 5, 6, 7, 8, 9)
	f = tabled(bare("nop", "div", "mod", "open 1", "open 2", "nop", "jump 7", "nop", "nop"), []int{1, 2, 1, 2, 2, 1, 1, 0, 0}, body{0, 7}, body{1, 7})
	lay(t, f)
	startsAre(t, f, 0, 7)
	f = bare("jump 9", "nop", "nop", "jump 7", "nop", "jump 5", "nop", "nop", "jump 2", "ret")
	startsAre(t, f, 0, 1, 2, 4, 5, 6, 7, 9)
}

func TestStartsOfWhatIsNotReached(t *testing.T) { // P19.2: it counts too
	startsAre(t, bare("ret", "nop", "jump 4", "nop", "nop", "nop"), 0, 1, 3, 4)
	startsAre(t, tabled(bare("ret", "nop", "nop", "div", "nop", "nop"), []int{0, 0, 0, 1, 0, 0}, body{0, 5}), 0, 1, 5)
	startsAre(t, tabled(bare("ret", "nop", "open 1", "nop", "nop", "nop"), times(6, 0), body{0, 5}), 0, 1, 5)
}

func TestStartsWhereNoInstructionIs(t *testing.T) { // P19.2: nothing of these
	startsAre(t, bare("jump 1"), 0)
	startsAre(t, bare("jump 1999"), 0)
	startsAre(t, bare("nop", "if 2"), 0)
	startsAre(t, bare("if 3", "nop", "jump 1999"), 0, 1)
	startsAre(t, bare("nop", "nop", "ret"), 0)
	f := tabled(bare("div", "open 2", "nop", "nop"), []int{1, 0, 0, 0}, body{0, 4}, body{0, 1999})
	lay(t, f)
	startsAre(t, f, 0)
}

func TestStartsOfMany(t *testing.T) { // P19.2: as many as may be
	var rising []int
	for pc := range mostCode {
		rising = append(rising, pc)
	}
	for _, i := range []api.Instr{{Op: api.Ret}, {Op: api.Jump}, {Op: api.If, A: 1999}, {Op: api.Panic}, {Op: api.Close}} {
		startsAre(t, of(times(mostCode, i)), rising...)
	}
	startsAre(t, of(times(mostCode, api.Instr{})), 0)
	f := deep(mostCode, mostNodes, api.Instr{Op: api.Call})
	startsAre(t, f, append([]int{0}, rising[mostCode-mostNodes+1:]...)...)
}
