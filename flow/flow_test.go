package flow_test

import (
	"fmt"
	"math"
	"reflect"
	"slices"
	"sync"
	"testing"

	"inlay/api"
	"inlay/flow"
	"inlay/fnc"
	"inlay/instr"
)

const (
	least    = math.MinInt
	greatest = math.MaxInt

	mostCode  = 2000 // how many instructions the chapters say that a function may have
	mostNodes = 120  // how many nodes
)

// times tells n things alike.
func times[T any](n int, v T) []T {
	return slices.Repeat([]T{v}, n)
}

// code tells the instructions of texts.
func code(texts ...string) []api.Instr {
	var l []api.Instr
	for _, s := range texts {
		i, err := instr.Read(s)
		if err != api.OK {
			panic(fmt.Sprintf("%q is no instruction of the tests: %d", s, err))
		}
		l = append(l, i)
	}
	return l
}

// bare tells a function without tables of these instructions.
func bare(texts ...string) api.Func {
	return of(code(texts...))
}

// of tells a function without tables of instructions.
func of(l []api.Instr) api.Func {
	return api.Func{Name: "f", Code: l, Lines: make([]int, len(l))}
}

// body is a node above 0: the one in which it stands, and its Resume.
type body struct{ parent, resume int }

// tabled tells f with a tree of node 0 and the bodies, its instructions being of the nodes at.
func tabled(f api.Func, at []int, bodies ...body) api.Func {
	f.Nodes = []api.Node{{Parent: -1}}
	for _, b := range bodies {
		f.Nodes = append(f.Nodes, api.Node{Parent: b.parent, Resume: b.resume})
	}
	f.At, f.Live = at, make([]api.Set, len(f.Code))
	return f
}

// within tells a function with a body within a body, and one behind these, as calls would have been replaced.
func within() api.Func {
	f := bare(
		"open 1",  // 0
		"push 1",  // 1
		"open 2",  // 2
		"push 0",  // 3
		"if 7",    // 4
		"div",     // 5
		"close 2", // 6
		"push 2",  // 7
		"panic",   // 8
		"load 0",  // 9: the second body's Resume
		"mod",     // 10
		"close 1", // 11
		"call 1",  // 12: the first one's
		"open 3",  // 13
		"close 3", // 14
		"emit",    // 15
		"jump 17", // 16
		"ret",     // 17
	)
	return tabled(f, []int{0, 1, 1, 2, 2, 2, 2, 2, 2, 1, 1, 1, 0, 0, 3, 0, 0, 0}, body{0, 12}, body{1, 9}, body{0, 15})
}

// lay holds that f can be laid: of others the chapter promises nothing.
func lay(t *testing.T, f api.Func) {
	t.Helper()
	if err := fnc.Can(f); err != api.OK {
		t.Errorf("a function of the tests can't be laid, %d: %s", err, show(f))
	}
}

// node tells what the chapter says that Node tells.
func node(f api.Func, pc int) int {
	for k := range f.Code {
		if k == pc && k < len(f.At) {
			return f.At[k]
		}
	}
	return 0
}

// ended tells the Resume of a node above 0.
func ended(f api.Func, n int) []int {
	for k, x := range f.Nodes {
		if k == n && k > 0 {
			return []int{x.Resume}
		}
	}
	return nil
}

// next tells what the chapter says that Next tells.
func next(f api.Func, pc int) []int {
	for k, i := range f.Code {
		switch {
		case k != pc:
		case i.Op == api.Jump, i.Op == api.If && i.A == k+1:
			return []int{i.A}
		case i.Op == api.If:
			return []int{k + 1, i.A}
		case i.Op == api.Close:
			return ended(f, i.A)
		case i.Op != api.Ret && i.Op != api.Panic:
			return []int{k + 1}
		}
	}
	return nil
}

// raising tells what the chapters say that Raises.
func raising() []api.Op {
	return []api.Op{api.Div, api.Mod, api.Call, api.Ret, api.Panic, api.Open, api.Close}
}

// up tells the nodes from n to 0, in a tree that is Right.
func up(f api.Func, n int) []int {
	if n <= 0 {
		return []int{0}
	}
	return append([]int{n}, up(f, f.Nodes[n].Parent)...)
}

// catch tells what the chapter says that Catch tells of functions that can be laid.
func catch(f api.Func, pc int) []int {
	var l []int
	for k, i := range f.Code {
		if k == pc && slices.Contains(raising(), i.Op) {
			for _, n := range up(f, node(f, k)) {
				l = append(l, ended(f, n)...)
			}
		}
	}
	return l
}

// led tells the ends of the bodies that an instruction opens.
func led(f api.Func, pc int) []int {
	if f.Code[pc].Op == api.Open {
		return ended(f, f.Code[pc].A)
	}
	return nil
}

// inside tells what the chapter says that Within tells.
func inside(f api.Func) bool {
	for pc := range f.Code {
		for _, to := range slices.Concat(next(f, pc), catch(f, pc)) {
			if to < 0 || to >= len(f.Code) {
				return false
			}
		}
	}
	return true
}

// reach tells what the chapter says that Reach tells: all instructions are gone over till nothing changes.
func reach(f api.Func) []bool {
	l := make([]bool, len(f.Code))
	if len(l) > 0 {
		l[0] = true
	}
	for changed := true; changed; {
		changed = false
		for pc := range f.Code {
			for _, to := range slices.Concat(next(f, pc), catch(f, pc), led(f, pc)) {
				if l[pc] && to >= 0 && to < len(l) && !l[to] {
					l[to], changed = true, true
				}
			}
		}
	}
	return l
}

// starts tells what the chapter says that Starts tells: each instruction is held against all others.
func starts(f api.Func) []int {
	ends := []api.Op{api.Jump, api.If, api.Ret, api.Panic, api.Close}
	var l []int
	for pc := range f.Code {
		is := pc == 0 || slices.Contains(ends, f.Code[pc-1].Op)
		for from, i := range f.Code {
			jumps := (i.Op == api.Jump || i.Op == api.If) && i.A == pc
			is = is || jumps || slices.Contains(slices.Concat(catch(f, from), led(f, from)), pc)
		}
		if is {
			l = append(l, pc)
		}
	}
	return l
}

// show tells as much of what was handed in as may be shown.
func show(v any) string {
	s := fmt.Sprintf("%+v", v)
	return fmt.Sprintf("%d bytes %s", len(s), s[:min(len(s), 600)])
}

// same holds a list that was told against what it should be; nil is as an empty one.
func same[T comparable](t *testing.T, what string, f api.Func, got, want []T) {
	t.Helper()
	if !slices.Equal(got, want) {
		t.Errorf("%s: %s, want %s, of %s", what, show(got), show(want), show(f))
	}
}

func nodeIs(t *testing.T, f api.Func, pc, want int) {
	t.Helper()
	same(t, fmt.Sprint("Node of ", pc), f, []int{flow.Node(f, pc)}, []int{want})
}

func nextIs(t *testing.T, f api.Func, pc int, want ...int) {
	t.Helper()
	same(t, fmt.Sprint("Next of ", pc), f, flow.Next(f, pc), want)
}

func catchIs(t *testing.T, f api.Func, pc int, want ...int) {
	t.Helper()
	same(t, fmt.Sprint("Catch of ", pc), f, flow.Catch(f, pc), want)
}

func withinIs(t *testing.T, f api.Func, want bool) {
	t.Helper()
	same(t, "Within", f, []bool{flow.Within(f)}, []bool{want})
}

func startsAre(t *testing.T, f api.Func, want ...int) {
	t.Helper()
	same(t, "Starts", f, flow.Starts(f), want)
}

// reachIs holds Reach against the instructions that are reached; all others are not.
func reachIs(t *testing.T, f api.Func, want ...int) {
	t.Helper()
	l := make([]bool, len(f.Code))
	for _, pc := range want {
		l[pc] = true
	}
	same(t, "Reach", f, flow.Reach(f), l)
}

// reachesAll holds that each instruction is reached.
func reachesAll(t *testing.T, f api.Func) {
	t.Helper()
	same(t, "Reach", f, flow.Reach(f), times(len(f.Code), true))
}

// none tells numbers of no instruction of f, below 0, at the end, and far beyond it.
func none(f api.Func) []int {
	n := len(f.Code)
	return []int{-1, -2, -n, -n - 1, n, n + 1, n + 2, 2*n + 1, 1999 + n, 2000 + n, 1 << 31, 1 << 32, 1<<32 + 1, -1 << 31, -1 << 32, least, least + 1, greatest - 1, greatest}
}

// holds holds all that is told of f, which can be laid, against the chapter.
func holds(t *testing.T, f api.Func) {
	t.Helper()
	lay(t, f)
	for pc := range f.Code {
		nodeIs(t, f, pc, node(f, pc))
		nextIs(t, f, pc, next(f, pc)...)
		catchIs(t, f, pc, catch(f, pc)...)
	}
	nothing(t, f)
	withinIs(t, f, inside(f))
	same(t, "Reach", f, flow.Reach(f), reach(f))
	startsAre(t, f, starts(f)...)
}

// nothing holds that of numbers of no instruction nothing is told.
func nothing(t *testing.T, f api.Func) {
	t.Helper()
	for _, pc := range none(f) {
		nodeIs(t, f, pc, 0)
		nextIs(t, f, pc)
		catchIs(t, f, pc)
	}
}

// dice tells numbers that look like any, the same ones each time.
type dice uint64

func (d *dice) roll(n int) int {
	*d = *d*6364136223846793005 + 1442695040888963407
	return int(*d >> 33 % dice(n))
}

// place tells the number of an instruction of n, or, now and then, of none; at least low.
func (d *dice) place(n, low int) int {
	to := d.roll(n)
	if d.roll(20) == 0 {
		to = []int{n, n + 1, 1999, mostCode - 1 - d.roll(9)}[d.roll(4)]
	}
	return min(max(to, low), mostCode-1)
}

// instr tells an instruction, of n and of so many nodes, that may be: most of them lead elsewhere.
func (d *dice) instr(n, nodes int) api.Instr {
	ops := []api.Op{api.Jump, api.Jump, api.If, api.If, api.Ret, api.Panic, api.Open, api.Open, api.Close, api.Close, api.Div, api.Mod, api.Call, api.Nop, api.Dup}
	i := api.Instr{Op: ops[d.roll(len(ops))]}
	if d.roll(4) == 0 {
		i.Op = api.Op(d.roll(int(api.Ops)))
	}
	switch i.Op {
	case api.Jump, api.If:
		i.A = d.place(n, 0)
	case api.Open, api.Close:
		i.A = min(d.roll(nodes+1), mostNodes-1)
	case api.Push:
		i.A = d.roll(3) - 1
	}
	return i
}

// function tells a function of n instructions that can be laid: without tables, if there are to be no nodes.
func (d *dice) function(n, nodes int) api.Func {
	f := api.Func{Name: "f", Lines: make([]int, n)}
	for range n {
		f.Code = append(f.Code, d.instr(n, nodes))
	}
	for k := range nodes {
		x := api.Node{Parent: -1}
		if k > 0 {
			x.Parent, x.Resume = max(d.roll(k), d.roll(k)*d.roll(2)), d.place(n, 1)
		}
		f.Nodes = append(f.Nodes, x)
	}
	if nodes > 0 {
		f.Live = make([]api.Set, n)
		for range n {
			f.At = append(f.At, d.roll(nodes))
		}
	}
	return f
}

// functions tells functions of all kinds that can be laid.
func functions() []api.Func {
	l := []api.Func{within(), bare("ret"), bare("jump 0"), bare("nop")}
	d := dice(19)
	for range 60 {
		l = append(l, d.function(1+d.roll(30), 0), d.function(1+d.roll(30), 1+d.roll(9)))
	}
	for _, n := range []int{1, 2, 3, 100} {
		l = append(l, d.function(n, 0), d.function(n, 1), d.function(n, mostNodes))
	}
	return l
}

// wrongs tells functions that can't be laid.
func wrongs() map[string]api.Func {
	with := func(change func(f *api.Func)) api.Func {
		f := within()
		change(&f)
		return f
	}
	ends := []int{least, greatest, -1, mostNodes, 5, 4, mostCode, 1 << 32}
	// Instructions of each kind, and of none, with each number as A.
	var odd []api.Instr
	for op := -2; op <= int(api.Ops)+1; op++ {
		for _, a := range append(ends, 0, 1, 2) {
			odd = append(odd, api.Instr{Op: api.Op(op), A: a})
		}
	}
	odd = append(odd, api.Instr{Op: api.Op(least), A: greatest}, api.Instr{Op: api.Op(greatest), A: least})
	closes := func(a int) []api.Instr { return times(70000, api.Instr{Op: api.Close, A: a}) }
	return map[string]api.Func{
		"the zero one":                 {},
		"the zero one, but Inner":      {Inner: true},
		"no instructions":              with(func(f *api.Func) { f.Code = nil }),
		"instructions that may not be": with(func(f *api.Func) { f.Code = odd }),
		"such, and a node for each":    with(func(f *api.Func) { f.Code, f.At = odd, times(len(odd), 2) }),
		"such, without tables":         of(odd),
		"2001 instructions":            with(func(f *api.Func) { f.Code = times(2001, api.Instr{Op: api.Div}) }),
		"70000 instructions":           with(func(f *api.Func) { f.Code, f.At = closes(2), times(70000, 2) }),
		"70000 that jump far":          of(times(70000, api.Instr{Op: api.If, A: greatest})),
		"70000 that jump back":         of(times(70000, api.Instr{Op: api.If, A: least})),
		"Nodes alone":                  with(func(f *api.Func) { f.At, f.Live = nil, nil }),
		"At alone":                     with(func(f *api.Func) { f.Nodes, f.Live = nil, nil }),
		"Live alone":                   with(func(f *api.Func) { f.Nodes, f.At = nil, nil }),
		"no Nodes":                     with(func(f *api.Func) { f.Nodes = nil }),
		"no At":                        with(func(f *api.Func) { f.At = nil }),
		"fewer of At":                  with(func(f *api.Func) { f.At = f.At[:3:3] }),
		"more of At":                   with(func(f *api.Func) { f.At = times(70000, 1) }),
		"more of At than code":         with(func(f *api.Func) { f.Code = f.Code[:3:3] }),
		"nodes of At that are not":     with(func(f *api.Func) { f.At = slices.Repeat(ends, 4) }),
		"nodes in a circle":            with(func(f *api.Func) { f.Nodes = []api.Node{{Parent: 1, Resume: 3}, {Parent: 2, Resume: 4}, {Resume: 5}} }),
		"a node in itself":             with(func(f *api.Func) { f.Nodes = []api.Node{{}} }),
		"nodes in themselves":          with(func(f *api.Func) { f.Nodes = []api.Node{{}, {Parent: 1}, {Parent: 2}, {Parent: 3}} }),
		"nodes in the one behind":      with(func(f *api.Func) { f.Nodes = []api.Node{{Parent: 1}, {Parent: 2}, {Parent: 3}, {Parent: -1}} }),
		"nodes at their ends": with(func(f *api.Func) {
			f.Nodes = []api.Node{{Parent: least, Resume: least}, {Parent: greatest, Resume: greatest}, {Parent: least, Resume: greatest}, {Parent: -1, Resume: least}}
		}),
		"more nodes than may be": with(func(f *api.Func) { f.Nodes = make([]api.Node, 3000) }),
		"tables, and no code":    {Nodes: []api.Node{{Parent: -1}}, At: []int{0}, Live: []api.Set{{}}},
		"far too much":           {Code: make([]api.Instr, 70000), Lines: make([]int, 70000), At: make([]int, 70000), Live: make([]api.Set, 70000), Nodes: make([]api.Node, 70000)},
	}
}

// all tells functions that can be laid, and such that can't, in one order.
func all() []api.Func {
	l := functions()
	of := wrongs()
	names := []string{}
	for name := range of {
		names = append(names, name)
	}
	slices.Sort(names)
	for _, name := range names {
		l = append(l, of[name])
	}
	return l
}

func TestExample(t *testing.T) { // P19.1, P19.2
	f := bare("jump 2", "nop", "ret")
	nextIs(t, f, 0, 2)
	reachIs(t, f, 0, 2)
	startsAre(t, f, 0, 1, 2)
	withinIs(t, f, true)
	holds(t, f)
}

func TestBodiesWithinBodies(t *testing.T) { // P19.1, P19.2: all of one function, told by hand
	f := within()
	for pc, want := range []struct {
		node        int
		next, catch []int
	}{
		{0, []int{1}, nil},
		{1, []int{2}, nil},
		{1, []int{3}, []int{12}},
		{2, []int{4}, nil},
		{2, []int{5, 7}, nil},
		{2, []int{6}, []int{9, 12}},
		{2, []int{9}, []int{9, 12}},
		{2, []int{8}, nil},
		{2, nil, []int{9, 12}},
		{1, []int{10}, nil},
		{1, []int{11}, []int{12}},
		{1, []int{12}, []int{12}},
		{0, []int{13}, nil},
		{0, []int{14}, nil},
		{3, []int{15}, []int{15}},
		{0, []int{16}, nil},
		{0, []int{17}, nil},
		{0, nil, nil},
	} {
		nodeIs(t, f, pc, want.node)
		nextIs(t, f, pc, want.next...)
		catchIs(t, f, pc, want.catch...)
	}
	withinIs(t, f, true)
	reachesAll(t, f)
	startsAre(t, f, 0, 5, 7, 9, 12, 15, 17)
	holds(t, f)
}

func TestOfAny(t *testing.T) { // P19.1, P19.2
	d := dice(1)
	for range 4000 {
		holds(t, d.function(1+d.roll(24), 0))
		holds(t, d.function(1+d.roll(24), 1+d.roll(7)))
	}
	for range 20 {
		holds(t, d.function(60+d.roll(60), 1+d.roll(mostNodes)))
	}
	for _, f := range functions() {
		holds(t, f)
	}
}

func TestTheTestsFunctionsAreOfAllKinds(t *testing.T) { // P19.2: else they tell too little
	d := dice(1)
	in, some := 0, 0
	for range 4000 {
		f := d.function(1+d.roll(24), 1+d.roll(7))
		if inside(f) {
			in++
		}
		if slices.Contains(reach(f), false) && slices.Contains(reach(f)[1:], true) {
			some++
		}
	}
	if in < 200 || in > 3800 || some < 1000 {
		t.Errorf("of 4000 functions %d lead nowhere else, of %d some instructions are reached and some are not: too few to tell", in, some)
	}
}

// face is a call of flow with a function: what it tells.
type face struct {
	name string
	call func(f api.Func) any
}

// each tells what is told of each instruction, and of some that there are not.
func each[T any](call func(f api.Func, pc int) T) func(f api.Func) any {
	return func(f api.Func) any {
		told := []T{call(f, -1), call(f, len(f.Code)), call(f, least), call(f, greatest)}
		for pc := range f.Code[:min(len(f.Code), 300)] {
			told = append(told, call(f, pc))
		}
		return told
	}
}

func faces() []face {
	return []face{
		{"Node", each(flow.Node)},
		{"Next", each(flow.Next)},
		{"Catch", each(flow.Catch)},
		{"Within", func(f api.Func) any { return flow.Within(f) }},
		{"Reach", func(f api.Func) any { return flow.Reach(f) }},
		{"Starts", func(f api.Func) any { return flow.Starts(f) }},
	}
}

func TestOfWhatMayNotBe(t *testing.T) { // R1: no call panics, and each ends; of no instruction nothing is told
	for name, f := range wrongs() {
		t.Run(name, func(t *testing.T) {
			if fnc.Can(f) == api.OK {
				t.Errorf("it can be laid: %s", show(f))
			}
			for _, x := range faces() {
				x.call(f)
			}
			nothing(t, f)
			if n := len(flow.Reach(f)); n != len(f.Code) {
				t.Errorf("Reach tells of %d instructions, and there are %d", n, len(f.Code))
			}
		})
	}
}

func TestChangedFunctions(t *testing.T) { // R1: numbers that may not be, one or several, among such that may
	d := dice(77)
	ends := []int{least, least + 1, -2, -1, 0, 1, 2, 7, mostNodes - 1, mostNodes, mostCode - 1, mostCode, greatest - 1, greatest}
	for range 5000 {
		f := d.function(1+d.roll(12), 1+d.roll(6))
		for range 1 + d.roll(4) {
			v := ends[d.roll(len(ends))]
			switch pc, n := d.roll(len(f.Code)), d.roll(len(f.Nodes)); d.roll(7) {
			case 0:
				f.Code[pc].A = v
			case 1:
				f.Code[pc].Op = api.Op(v)
			case 2:
				f.Nodes[n].Parent = v
			case 3:
				f.Nodes[n].Resume = v
			case 4:
				f.At = append(f.At[:min(pc, len(f.At))], v)
			case 5:
				f.Nodes = f.Nodes[:n+1]
			case 6:
				f.Nodes[n].Parent = d.roll(len(f.Nodes))
			}
		}
		for _, x := range faces() {
			x.call(f)
		}
		nothing(t, f)
	}
}

func TestTheZeroFunction(t *testing.T) { // P19.1, P19.2: it has no instruction, and none that leads elsewhere
	nothing(t, api.Func{})
	withinIs(t, api.Func{}, true)
	reachIs(t, api.Func{})
	startsAre(t, api.Func{})
}

func TestItHangsOnNothingElse(t *testing.T) { // P19.1, P19.2: not on names, types, lines, slots, nor on what the nodes are else
	for _, f := range functions() {
		g := fnc.Copy(f)
		g.Name, g.Inner, g.Outer, g.Params, g.Results, g.Locals = "other", true, []api.Type{1}, []api.Type{2}, []api.Type{1, 2}, times(200, api.Cx)
		for k := range g.Nodes {
			x := &g.Nodes[k]
			x.Func, x.Args, x.From, x.To = 39-k%40, 1, k, k+1
			x.Line = min(k, 1) * 65535
		}
		for k := range g.Lines {
			g.Lines[k] = 65535 - k
		}
		for k := range g.Live {
			g.Live[k] = api.Set{greatest}
		}
		lay(t, g)
		for _, x := range faces() {
			if !reflect.DeepEqual(x.call(f), x.call(g)) {
				t.Errorf("%s of %s: %v, of %s: %v", x.name, show(f), x.call(f), show(g), x.call(g))
			}
		}
	}
}

func TestEmptyListsAreAsNone(t *testing.T) { // P19.1, P19.2, R3
	for _, f := range functions() {
		g := f
		if len(f.Nodes) == 0 {
			g.Nodes, g.At, g.Live = []api.Node{}, []int{}, []api.Set{}
		}
		g.Outer, g.Params, g.Results, g.Locals = []api.Type{}, []api.Type{}, []api.Type{}, []api.Type{}
		holds(t, g)
	}
	withinIs(t, api.Func{Code: []api.Instr{}}, true)
	reachIs(t, api.Func{Code: []api.Instr{}})
	startsAre(t, api.Func{Code: []api.Instr{}})
}

func TestTheSameEachTime(t *testing.T) { // P19.1, P19.2, R4: forward and backward, also behind what may not be
	l := all()
	for _, x := range faces() {
		var first []any
		for _, f := range l {
			first = append(first, x.call(f))
		}
		for k, f := range slices.Backward(l) {
			if got := x.call(f); !reflect.DeepEqual(got, first[k]) {
				t.Errorf("%s of %s, asked again: %s, want %s", x.name, show(f), show(got), show(first[k]))
			}
		}
	}
}

func TestManyAtOnce(t *testing.T) { // P19.1, P19.2, R4: whatever else is asked at the same time
	l := all()
	ask := func() []any {
		var told []any
		for _, f := range l {
			for _, x := range faces() {
				told = append(told, x.call(f))
			}
		}
		return told
	}
	want := ask()
	var all sync.WaitGroup
	for range 8 {
		all.Go(func() {
			if !reflect.DeepEqual(ask(), want) {
				t.Errorf("calls at the same time tell other things")
			}
		})
	}
	all.Wait()
}

// roomy tells l in memory of its own, with room behind its end in which v stands; an empty one has room too.
func roomy[T any](l []T, v T) []T {
	n := len(l)
	return slices.Concat(l, times(5, v))[:n]
}

// room tells all of l, and of the room behind its end.
func room[T any](l []T) []T { return slices.Clone(l[:cap(l)]) }

// spacious tells f with room behind each of its lists, in which stands what would lead elsewhere.
func spacious(f api.Func) api.Func {
	f.Outer, f.Params, f.Results, f.Locals = roomy(f.Outer, 71), roomy(f.Params, 72), roomy(f.Results, 73), roomy(f.Locals, 74)
	f.Code, f.Lines = roomy(f.Code, api.Instr{Op: api.Jump}), roomy(f.Lines, 77)
	f.Nodes, f.At, f.Live = roomy(f.Nodes, api.Node{Resume: 1}), roomy(f.At, 1), roomy(f.Live, api.Set{80})
	return f
}

// kept tells a copy of f, and of all room behind its lists.
func kept(f api.Func) api.Func {
	f.Outer, f.Params, f.Results, f.Locals = room(f.Outer), room(f.Params), room(f.Results), room(f.Locals)
	f.Code, f.Lines = room(f.Code), room(f.Lines)
	f.Nodes, f.At, f.Live = room(f.Nodes), room(f.At), room(f.Live)
	return f
}

func TestWhatIsHandedInIsNotChanged(t *testing.T) { // P19.1, P19.2, R3: nor what lies behind a list's end, nor does that count
	for _, f := range all() {
		g := spacious(f)
		before := kept(g)
		for _, x := range faces() {
			if got, want := x.call(g), x.call(f); !reflect.DeepEqual(got, want) {
				t.Errorf("%s of %s, with room behind each list: %s, want %s", x.name, show(f), show(got), show(want))
			}
			if !reflect.DeepEqual(kept(g), before) {
				t.Fatalf("%s of %s: changes what is handed in", x.name, show(f))
			}
		}
	}
}

func TestWhatIsHandedInIsNotKept(t *testing.T) { // P19.1, P19.2, R3: changed behind the call, it changes no answer
	for _, f := range functions() {
		for _, x := range faces() {
			g := fnc.Copy(f)
			told, want := x.call(g), x.call(f)
			for k := range g.Code {
				g.Code[k] = api.Instr{Op: api.Jump, A: 1234}
			}
			for k := range g.At {
				g.At[k] = 99
			}
			for k := range g.Nodes {
				g.Nodes[k] = api.Node{Parent: 5, Resume: 1234}
			}
			if !reflect.DeepEqual(told, want) {
				t.Errorf("%s of %s: what was told changes with what was handed in", x.name, show(f))
			}
		}
	}
}

// scrawl overwrites a list, and all room behind its end.
func scrawl[T any](l []T, v T) {
	for k := range l[:cap(l)] {
		l[:cap(l)][k] = v
	}
}

func TestWhatIsToldIsNewMemory(t *testing.T) { // P19.1, P19.2, R3: it shares none with what is handed in, nor with what is told later
	for _, f := range functions() {
		g := spacious(f)
		before := kept(g)
		for pc := range g.Code {
			scrawl(flow.Next(g, pc), -77)
			scrawl(flow.Catch(g, pc), -78)
		}
		scrawl(flow.Reach(g), true)
		scrawl(flow.Starts(g), -79)
		if !reflect.DeepEqual(kept(g), before) {
			t.Fatalf("what is told of %s shares memory with it", show(f))
		}
		holds(t, g)
		for pc := range g.Code {
			apart(t, "Next", f, flow.Next(g, pc), flow.Next(g, pc), -77)
			apart(t, "Catch", f, flow.Catch(g, pc), flow.Catch(g, pc), -78)
			apart(t, "Next and Catch", f, flow.Next(g, pc), flow.Catch(g, pc), -80)
		}
		apart(t, "Reach", f, flow.Reach(g), flow.Reach(g), true)
		apart(t, "Reach", f, flow.Reach(g), flow.Reach(g), false)
		apart(t, "Starts", f, flow.Starts(g), flow.Starts(g), -79)
	}
}

// apart holds that two lists share no memory.
func apart[T comparable](t *testing.T, what string, f api.Func, a, b []T, v T) {
	t.Helper()
	want := slices.Clone(b)
	scrawl(a, v)
	same(t, what+", behind a change of what was told", f, b, want)
}

func FuzzFunc(f *testing.F) {
	f.Add(uint64(1), 3, 2)
	f.Add(uint64(2), 40, 0)
	f.Add(uint64(3), 90, 120)
	f.Fuzz(func(t *testing.T, seed uint64, n, nodes int) {
		d := dice(seed)
		holds(t, d.function(1+int(uint(n)%200), int(uint(nodes)%(mostNodes+1))))
	})
}
