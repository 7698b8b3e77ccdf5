package typing_test

import (
	"fmt"
	"math"
	"reflect"
	"slices"
	"sort"
	"strings"
	"sync"
	"testing"

	"inlay/api"
	"inlay/asm"
	"inlay/file"
	"inlay/flow"
	"inlay/instr"
	"inlay/typing"
)

const (
	least    = math.MinInt
	greatest = math.MaxInt

	mostCode  = 2000 // how many instructions the chapters say that a function may have
	mostNodes = 120  // how many nodes
	mostStack = 60   // how many may lie on a stack
)

// times tells n things alike.
func times[T any](n int, v T) []T {
	return slices.Repeat([]T{v}, n)
}

// types tells a stack of letters, the last one on top: i, c, and 0 and ? of what is no type.
func types(s string) []api.Type {
	var l []api.Type
	for _, r := range s {
		l = append(l, map[rune]api.Type{'i': api.Int, 'c': api.Cx, '0': 0, '?': 3, '-': -1}[r])
	}
	return l
}

// fn tells a function without tables of its head, less its first word, and of its instructions.
func fn(head string, texts ...string) api.Func {
	f, err := asm.Head("func " + head)
	if err != api.OK {
		panic(fmt.Sprintf("%q is no head of the tests: %d", head, err))
	}
	for _, s := range texts {
		i, err := instr.Read(s)
		if err != api.OK {
			panic(fmt.Sprintf("%q is no instruction of the tests: %d", s, err))
		}
		f.Code = append(f.Code, i)
	}
	f.Lines = make([]int, len(f.Code))
	return f
}

// program tells the program of functions.
func program(l ...api.Func) api.Program { return api.Program{Funcs: l} }

// only tells the program of one function that has no slots.
func only(texts ...string) api.Program { return program(fn("f - - -", texts...)) }

// of tells f with other instructions.
func of(f api.Func, l ...api.Instr) api.Func {
	f.Code, f.Lines = l, make([]int, len(l))
	return f
}

// body is a node: whose body it is, and its Resume.
type body struct{ fn, resume int }

// tabled tells f with a tree of node 0, which is of function own, and of the bodies in it; its instructions are of the nodes at.
func tabled(f api.Func, own int, at []int, bodies ...body) api.Func {
	f.Nodes = []api.Node{{Parent: -1, Func: own}}
	for _, b := range bodies {
		f.Nodes = append(f.Nodes, api.Node{Func: b.fn, Resume: b.resume})
	}
	f.At, f.Live = at, make([]api.Set, len(f.Code))
	return f
}

// lay holds that p can be laid: of others the chapter promises nothing.
func lay(t *testing.T, p api.Program) {
	t.Helper()
	if err := file.Can(p); err != api.OK {
		t.Errorf("a program of the tests can't be laid, %d: %s", err, show(p))
	}
}

// show tells as much of what was handed in as may be shown.
func show(v any) string {
	s := fmt.Sprintf("%+v", v)
	return fmt.Sprintf("%d bytes %s", len(s), s[:min(len(s), 1500)])
}

// owner tells what the chapter says that Owner tells.
func owner(p api.Program, f, pc int) int {
	g := p.Funcs[f]
	if len(g.Nodes) == 0 {
		return f
	}
	return g.Nodes[g.At[pc]].Func
}

// fixed tells what an instruction takes and gives, if that is always the same: chapter 9, once more.
func fixed(op api.Op) (takes, gives []api.Type) {
	of := func(s, g string) ([]api.Type, []api.Type) { return types(s), types(g) }
	switch op {
	case api.Push, api.Draw:
		return of("", "i")
	case api.Add, api.Sub, api.Mul, api.Div, api.Mod, api.Less, api.Same:
		return of("ii", "i")
	case api.Neg, api.Not:
		return of("i", "i")
	case api.Pair:
		return of("ii", "c")
	case api.Plus, api.Minus, api.Times:
		return of("cc", "c")
	case api.Real, api.Imag:
		return of("c", "i")
	case api.If, api.Panic, api.Emit:
		return of("i", "")
	case api.Recover:
		return of("", "ii")
	}
	return nil, nil
}

// lookup tells the type at n as a list, and whether there is one.
func lookup(l []api.Type, n int) ([]api.Type, bool) {
	for k, v := range l {
		if k == n {
			return []api.Type{v}, true
		}
	}
	return nil, false
}

// effect tells what the chapter says that Effect tells of programs that can be laid: all that may be wrong, in the chapter's order.
func effect(p api.Program, f, pc int, st []api.Type) ([]api.Type, api.Errno) {
	g := p.Funcs[f]
	i := g.Code[pc]
	is := func(l ...api.Op) bool { return slices.Contains(l, i.Op) }
	takes, gives := fixed(i.Op)

	slot, noSlot := lookup(slices.Concat(g.Params, g.Results, g.Locals), i.A)
	var called, owned api.Func
	noCall, noOuter := true, true
	for k, x := range p.Funcs {
		if k == i.A {
			called, noCall = x, false
		}
		if k == owner(p, f, pc) && x.Inner {
			owned, noOuter = x, false
		}
	}
	outer, hasOuter := lookup(owned.Outer, i.A)
	noOuter = noOuter || !hasOuter

	top, some := lookup(st, len(st)-1)
	switch i.Op {
	case api.Load:
		gives = slot
	case api.Store:
		takes = slot
	case api.Pop:
		takes = top
	case api.Dup:
		gives = top
	case api.Call:
		takes, gives = called.Params, called.Results
	case api.Defer:
		takes = called.Params
	case api.GetRes:
		gives = outer
	case api.SetRes:
		takes = outer
	}
	few := len(st) < len(takes)
	var behind []api.Type
	if !few {
		behind = slices.Concat(st[:len(st)-len(takes)], gives)
	}
	for _, x := range []struct {
		wrong bool
		err   api.Errno
	}{
		{is(api.Load, api.Store) && !noSlot, 2},
		{is(api.Store, api.Pop, api.Dup) && !some, 10},
		{is(api.Store) && !slices.Equal(top, slot), 9},
		{is(api.Call, api.Defer) && noCall, 12},
		{is(api.GetRes, api.SetRes) && noOuter, 13},
		{few, 10},
		{!few && !slices.Equal(st[max(0, len(st)-len(takes)):], takes), 9},
		{is(api.Ret) && some, 10},
		{is(api.Open, api.Close) && (i.A <= 0 || i.A >= len(g.Nodes)), 13},
		{len(behind) > mostStack, 10},
	} {
		if x.wrong {
			return nil, x.err
		}
	}
	return behind, 0
}

// ways tells the instructions that are reached from pc with the stack behind it.
func ways(g api.Func, pc int) []int {
	l := flow.Next(g, pc)
	if i := g.Code[pc]; i.Op == api.Open {
		l = append(l, g.Nodes[i.A].Resume)
	}
	return l
}

// stacks tells what the chapter says that Stacks tells of programs that can be laid.
func stacks(p api.Program, f int) (typing.Types, api.Errno, int) {
	g := p.Funcs[f]
	told := typing.Types{Of: make([][]api.Type, len(g.Code)), Reached: make([]bool, len(g.Code))}
	told.Reached[0] = true
	gone := map[int]bool{}
	for {
		pc := 0
		for pc < len(g.Code) && (gone[pc] || !told.Reached[pc]) {
			pc++
		}
		if pc == len(g.Code) {
			return told, 0, 0
		}
		gone[pc] = true
		behind, err := effect(p, f, pc, told.Of[pc])
		if err != 0 {
			return typing.Types{}, err, pc
		}
		for _, to := range ways(g, pc) {
			switch {
			case to >= len(g.Code):
				return typing.Types{}, 11, pc
			case told.Reached[to] && !slices.Equal(told.Of[to], behind):
				return typing.Types{}, 10, pc
			}
			told.Of[to], told.Reached[to] = behind, true
		}
	}
}

// sameTypes tells whether two are the same; nil is as an empty list.
func sameTypes(a, b typing.Types) bool {
	return slices.EqualFunc(a.Of, b.Of, slices.Equal) && slices.Equal(a.Reached, b.Reached)
}

func ownerIs(t *testing.T, p api.Program, f, pc, want int) {
	t.Helper()
	if got := typing.Owner(p, f, pc); got != want {
		t.Errorf("Owner of %d, %d: %d, want %d, of %s", f, pc, got, want, show(p))
	}
}

func effectIs(t *testing.T, p api.Program, f, pc int, st, want []api.Type, err api.Errno) {
	t.Helper()
	if got, e := typing.Effect(p, f, pc, st); !slices.Equal(got, want) || e != err {
		t.Errorf("Effect of %d, %d upon %v: %v, %d, want %v, %d, of %s", f, pc, st, got, e, want, err, show(p))
	}
}

func stacksAre(t *testing.T, p api.Program, f int, want typing.Types, err api.Errno, pc int) {
	t.Helper()
	if got, e, n := typing.Stacks(p, f); !sameTypes(got, want) || e != err || n != pc {
		t.Errorf("Stacks of %d: %s, %d, %d, want %s, %d, %d, of %s", f, show(got), e, n, show(want), err, pc, show(p))
	}
}

func atIs(t *testing.T, x typing.Types, pc int, want []api.Type, reached bool) {
	t.Helper()
	if got, ok := typing.At(x, pc); !slices.Equal(got, want) || ok != reached {
		t.Errorf("At of %d: %v, %v, want %v, %v, of %s", pc, got, ok, want, reached, show(x))
	}
}

func highIs(t *testing.T, x typing.Types, want int) {
	t.Helper()
	if got := typing.High(x); got != want {
		t.Errorf("High: %d, want %d, of %s", got, want, show(x))
	}
}

// none tells numbers of none of n, below 0, at the end, and far beyond it.
func none(n int) []int {
	return []int{-1, -2, -n, -n - 1, n, n + 1, n + 2, 2*n + 1, 1999 + n, 2000 + n, 1 << 31, 1 << 32, 1<<32 + 1, -1 << 31, -1 << 32, least, least + 1, greatest - 1, greatest}
}

// tried tells stacks that instructions may be given.
func tried() [][]api.Type {
	var l [][]api.Type
	for _, s := range []string{"", "i", "c", "ii", "ic", "ci", "cc", "iii", "icc", "cci", "iic", "ccc", "0", "i?", "?ii", "c-", "iiiiiiii", "cccccccc"} {
		l = append(l, types(s))
	}
	for n := mostStack - 4; n <= mostStack+3; n++ {
		l = append(l, times(n, api.Int), times(n, api.Cx))
	}
	return l
}

// holds holds all that is told of p, which can be laid, against the chapter.
func holds(t *testing.T, p api.Program) {
	t.Helper()
	lay(t, p)
	for f, g := range p.Funcs {
		want, err, n := stacks(p, f)
		stacksAre(t, p, f, want, err, n)
		high := 0
		for pc := range g.Code {
			ownerIs(t, p, f, pc, owner(p, f, pc))
			if err == 0 {
				atIs(t, want, pc, want.Of[pc], want.Reached[pc])
				high = max(high, len(want.Of[pc]))
			}
		}
		highIs(t, want, high)
		for _, pc := range none(len(g.Code)) {
			atIs(t, want, pc, nil, false)
		}
		sound(t, p, f)
	}
	nothing(t, p)
}

// effects holds what Effect tells of each instruction against the chapter.
func effects(t *testing.T, p api.Program) {
	t.Helper()
	for f, g := range p.Funcs {
		for pc := range g.Code {
			for _, st := range tried() {
				want, err := effect(p, f, pc, st)
				effectIs(t, p, f, pc, st, want, err)
			}
		}
	}
}

// sound holds that behind OK each stack has at most 60, that each instruction takes what is there, and leaves what the next one finds.
func sound(t *testing.T, p api.Program, f int) {
	t.Helper()
	told, err, _ := typing.Stacks(p, f)
	if err != api.OK {
		return
	}
	for pc, st := range told.Of {
		if !told.Reached[pc] {
			if len(st) > 0 {
				t.Errorf("P20.4: %d is not reached, and has %v, of %s", pc, st, show(p))
			}
			continue
		}
		if len(st) > mostStack {
			t.Errorf("P20.4: the stack ahead of %d has %d, of %s", pc, len(st), show(p))
		}
		behind, err := effect(p, f, pc, st)
		if err != 0 {
			t.Errorf("P20.4: %d can't take what is there, %v: %d, of %s", pc, st, err, show(p))
		}
		for _, to := range ways(p.Funcs[f], pc) {
			if next, ok := typing.At(told, to); !ok || !slices.Equal(next, behind) {
				t.Errorf("P20.4: %d finds %v, %v, and %d leaves %v, of %s", to, next, ok, pc, behind, show(p))
			}
		}
	}
}

// nothing holds that of functions and instructions that there are not nothing is told.
func nothing(t *testing.T, p api.Program) {
	t.Helper()
	for _, f := range none(len(p.Funcs)) {
		for _, pc := range []int{0, 1, -1, least, greatest} {
			ownerIs(t, p, f, pc, 0)
			effectIs(t, p, f, pc, types("ic"), nil, 0)
		}
		stacksAre(t, p, f, typing.Types{}, 0, 0)
	}
	for f, g := range p.Funcs {
		for _, pc := range none(len(g.Code)) {
			ownerIs(t, p, f, pc, 0)
			effectIs(t, p, f, pc, types("ic"), nil, 0)
		}
	}
}

// dice tells numbers that look like any, the same ones each time.
type dice uint64

func (d *dice) roll(n int) int {
	*d = *d*6364136223846793005 + 1442695040888963407
	return int(*d >> 33 % dice(n))
}

// types tells at most n types.
func (d *dice) types(n int) []api.Type {
	var l []api.Type
	for range d.roll(n + 1) {
		l = append(l, api.Type(1+d.roll(2)))
	}
	return l
}

// head tells a function without instructions.
func (d *dice) head(n int) api.Func {
	f := api.Func{Name: fmt.Sprint("f", n), Params: d.types(8 * d.roll(2)), Results: d.types(4), Locals: d.types(5)}
	if d.roll(2) == 0 {
		f.Inner, f.Outer = true, d.types(4)
	}
	return f
}

// instr tells an instruction that may be one of function f of p; n numbers are enough for most A.
func (d *dice) instr(p api.Program, f int) api.Instr {
	i := api.Instr{Op: api.Op(d.roll(int(api.Ops)))}
	if d.roll(3) == 0 {
		l := []api.Op{api.Load, api.Store, api.Call, api.Dup, api.If, api.Open, api.GetRes, api.SetRes}
		i.Op = l[d.roll(len(l))]
	}
	g := p.Funcs[f]
	switch i.Op {
	case api.Push:
		i.A = d.roll(9) - 4
	case api.Load, api.Store:
		i.A = d.roll(len(g.Params) + len(g.Results) + len(g.Locals) + 1)
	case api.Call, api.Defer:
		i.A = d.roll(len(p.Funcs) + 1)
	case api.GetRes, api.SetRes:
		i.A = d.roll(4)
	case api.Open, api.Close:
		i.A = d.roll(min(len(g.Nodes)+1, mostNodes))
	}
	return i
}

// maker makes a function with which nothing is wrong, one instruction behind the other.
type maker struct {
	*dice
	p       api.Program
	f       int
	at      [][]api.Type       // what lies ahead of each instruction
	resumes map[int][]api.Type // what lies at the ends of nodes that were named
	grows   bool               // whether stacks are rather to grow than to shrink
}

// fits tells whether i may be the next instruction, as far as the ends of nodes and of the function ask.
func (m *maker) fits(i api.Instr, st []api.Type, last bool) bool {
	switch i.Op {
	case api.Open, api.Close:
		need, named := m.resumes[i.A]
		if named && !slices.Equal(need, st) || i.Op == api.Close && len(m.at) == 1 {
			return false
		}
	}
	return !last || ends(i.Op)
}

// ends tells whether what stands behind is never reached from there.
func ends(op api.Op) bool {
	return slices.Contains([]api.Op{api.Jump, api.Ret, api.Panic, api.Close}, op)
}

// next tells the next instruction, and the stack behind it.
func (m *maker) next(st []api.Type, last bool) (api.Instr, []api.Type) {
	g := &m.p.Funcs[m.f]
	pc := len(g.Code)
	g.Code = append(g.Code, api.Instr{})
	for try := range 60 {
		g.Code[pc] = m.instr(m.p, m.f)
		behind, err := effect(m.p, m.f, pc, st)
		if err != 0 || !m.fits(g.Code[pc], st, last) {
			continue
		}
		if grown := len(behind) - len(st); try < 30 && (m.grows && (grown < 0 || ends(g.Code[pc].Op)) || !m.grows && grown > 0) {
			continue
		}
		return g.Code[pc], behind
	}
	g.Code[pc] = api.Instr{Op: api.Jump}
	return g.Code[pc], st
}

// like tells the number of an instruction ahead of which st lies, at least low.
func (m *maker) like(st []api.Type, low int) int {
	var l []int
	for pc, x := range m.at {
		if pc >= low && slices.Equal(x, st) {
			l = append(l, pc)
		}
	}
	return l[m.roll(len(l))]
}

// body makes the instructions of function f, n of them, with so many nodes.
func (m *maker) body(n, nodes int) {
	g := &m.p.Funcs[m.f]
	for k := range nodes {
		g.Nodes = append(g.Nodes, api.Node{Parent: min(k, 1) - 1, Func: min(m.roll(len(m.p.Funcs)+1), 39), Resume: min(k, 1)})
	}
	if nodes > 0 {
		g.Live = make([]api.Set, n)
	}
	g.Lines = make([]int, n)
	var st []api.Type
	for pc := range n {
		if nodes > 0 {
			g.At = append(g.At, m.roll(nodes))
		}
		if m.roll(30) == 0 {
			m.grows = !m.grows
		}
		m.at = append(m.at, st)
		i, behind := m.next(st, pc == n-1)
		switch i.Op {
		case api.Open, api.Close:
			m.resumes[i.A] = st
		}
		st = behind
		if ends(i.Op) {
			st = m.at[m.roll(len(m.at))] // it is reached from elsewhere, if at all
		}
	}
	m.lead()
}

// lead makes jumps and nodes lead to where the stack that they leave is found.
func (m *maker) lead() {
	g := &m.p.Funcs[m.f]
	for pc, i := range g.Code {
		switch i.Op {
		case api.Jump:
			g.Code[pc].A = m.like(m.at[pc], 0)
		case api.If:
			g.Code[pc].A = m.like(m.at[pc][:len(m.at[pc])-1], 0)
		}
	}
	for k := range g.Nodes {
		if need, named := m.resumes[k]; named {
			g.Nodes[k].Resume = m.like(need, 1)
		}
	}
}

// program tells a program with which nothing is wrong, of functions of at most n instructions and so many nodes.
func (d *dice) program(funcs, n, nodes int) api.Program {
	var p api.Program
	for k := range funcs {
		p.Funcs = append(p.Funcs, d.head(k))
	}
	for f := range p.Funcs {
		m := maker{dice: d, p: p, f: f, resumes: map[int][]api.Type{}, grows: true}
		m.body(1+d.roll(n), d.roll(nodes+1))
	}
	return p
}

// spoiled tells p with one thing changed, so that it can still be laid.
func (d *dice) spoiled(p api.Program) api.Program {
	for {
		q := file.Copy(p)
		g := &q.Funcs[d.roll(len(q.Funcs))]
		pc := d.roll(len(g.Code))
		switch d.roll(6) {
		case 0, 1:
			g.Code[pc] = d.instr(q, 0)
			if op := g.Code[pc].Op; op == api.Jump || op == api.If {
				g.Code[pc].A = d.roll(len(g.Code) + 2)
			}
		case 2:
			g.Code = slices.Delete(g.Code, pc, pc+1)
			g.Lines = g.Lines[:len(g.Code)]
			if len(g.Nodes) > 0 {
				g.At, g.Live = slices.Delete(g.At, pc, pc+1), g.Live[:len(g.Code)]
			}
		case 3:
			g.Params = d.types(8)
		case 4:
			if len(g.Nodes) > 1 {
				g.Nodes[1+d.roll(len(g.Nodes)-1)].Resume = 1 + d.roll(len(g.Code)+1)
			}
		case 5:
			g.Code[pc].A = d.roll(len(g.Code) + 5)
		}
		if file.Can(q) == api.OK {
			return q
		}
	}
}

// programs tells programs of all kinds that can be laid.
func programs() []api.Program {
	l := []api.Program{host(), only("ret"), only("jump 0"), only("nop"), only("push 1", "emit", "ret"), only("pop")}
	d := dice(20)
	for range 40 {
		p := d.program(1+d.roll(4), 30, 4)
		l = append(l, p, d.spoiled(p), d.spoiled(d.spoiled(p)))
	}
	return append(l, d.program(40, 4, 2), d.program(1, mostCode, 0), d.program(1, mostCode, mostNodes))
}

// wrongs tells programs that can't be laid.
func wrongs() map[string]api.Program {
	with := func(change func(p *api.Program, f *api.Func)) api.Program {
		p := host()
		change(&p, &p.Funcs[0])
		return p
	}
	ends := []int{least, greatest, -1, mostNodes, 5, 4, mostCode, 1 << 32}
	// Instructions of each kind, and of none, with each number as A.
	var odd []api.Instr
	for op := -2; op <= int(api.Ops)+1; op++ {
		for _, a := range append(ends, 0, 1, 2) {
			odd = append(odd, api.Instr{Op: api.Op(op), A: a})
		}
	}
	odd = append(odd, api.Instr{Op: api.Op(least), A: greatest}, api.Instr{Op: api.Op(greatest), A: least})
	zigzag := make([]api.Instr, 70000)
	for k := range zigzag {
		zigzag[k] = api.Instr{Op: api.Jump, A: len(zigzag) - k - k%2}
	}
	return map[string]api.Program{
		"the zero one":                 {},
		"one zero function":            program(api.Func{}),
		"zero functions":               program(make([]api.Func, 50)...),
		"no instructions":              with(func(p *api.Program, f *api.Func) { f.Code = nil }),
		"instructions that may not be": with(func(p *api.Program, f *api.Func) { f.Code = odd }),
		"such, and a node for each":    with(func(p *api.Program, f *api.Func) { f.Code, f.At = odd, times(len(odd), 1) }),
		"such, without tables":         program(of(fn("f ic ci ic"), odd...)),
		"such, one by one": func() api.Program {
			var p api.Program
			for _, i := range odd {
				g := tabled(of(fn("f ic ci ic"), i), 0, []int{0}, body{1, 1})
				g.Inner, g.Outer = true, types("ic")
				p.Funcs = append(p.Funcs, g)
			}
			return p
		}(),
		"2001 instructions":          with(func(p *api.Program, f *api.Func) { f.Code = times(2001, api.Instr{}) }),
		"70000 instructions":         program(of(fn("f - - -"), times(70000, api.Instr{})...)),
		"70000 that jump far":        program(of(fn("f - - -"), times(70000, api.Instr{Op: api.Jump, A: greatest})...)),
		"70000 that jump to and fro": program(of(fn("f - - -"), zigzag...)),
		"70000 that push":            program(of(fn("f - - -"), times(70000, api.Instr{Op: api.Push})...)),
		"a jump to below":            program(of(fn("f - - -"), api.Instr{Op: api.Jump, A: least})),
		"a jump to far beyond":       program(of(fn("f - - -"), api.Instr{Op: api.Jump, A: greatest})),
		"70000 slots":                with(func(p *api.Program, f *api.Func) { f.Params, f.Results = times(70000, api.Int), times(70000, api.Cx) }),
		"types that may not be": with(func(p *api.Program, f *api.Func) {
			f.Params, f.Results, f.Locals = types("0?"), types("-"), types("??")
		}),
		"an Outer of what is not Inner": with(func(p *api.Program, f *api.Func) { f.Outer = types("ic") }),
		"a call of 70000": program(fn("f - - -", "call 1", "ret"), api.Func{Results: times(70000, api.Int)},
			api.Func{Params: times(70000, api.Cx)}),
		"Nodes alone":              with(func(p *api.Program, f *api.Func) { f.At, f.Live = nil, nil }),
		"At alone":                 with(func(p *api.Program, f *api.Func) { f.Nodes, f.Live = nil, nil }),
		"Live alone":               with(func(p *api.Program, f *api.Func) { f.Nodes, f.At = nil, nil }),
		"no Nodes":                 with(func(p *api.Program, f *api.Func) { f.Nodes = nil }),
		"no At":                    with(func(p *api.Program, f *api.Func) { f.At = nil }),
		"fewer of At":              with(func(p *api.Program, f *api.Func) { f.At = f.At[:3:3] }),
		"more of At":               with(func(p *api.Program, f *api.Func) { f.At = times(70000, 1) }),
		"nodes of At that are not": with(func(p *api.Program, f *api.Func) { f.At = slices.Repeat(ends, 9)[:len(f.Code)] }),
		"nodes at their ends": with(func(p *api.Program, f *api.Func) {
			f.Nodes = []api.Node{{Parent: least, Func: least, Resume: least}, {Parent: greatest, Func: greatest, Resume: greatest}, {Func: -1, Resume: -1}}
		}),
		"more nodes than may be":      with(func(p *api.Program, f *api.Func) { f.Nodes = make([]api.Node, 3000) }),
		"more functions than may be":  program(times(70000, fn("f - - -", "ret"))...),
		"names that stand twice":      program(fn("f - - -", "call 1", "ret"), fn("f - - -", "ret")),
		"a name that may not be":      with(func(p *api.Program, f *api.Func) { f.Name = "?" }),
		"tables, and no code":         program(api.Func{Nodes: []api.Node{{Parent: -1}}, At: []int{0}, Live: []api.Set{{}}}),
		"opens of what leads nowhere": program(tabled(of(fn("f - - -"), api.Instr{Op: api.Open, A: 1}), 0, []int{0}, body{0, least}, body{0, greatest})),
	}
}

// all tells programs that can be laid, and such that can't, in one order.
func all() []api.Program {
	l := programs()
	of := wrongs()
	names := []string{}
	for name := range of {
		names = append(names, name)
	}
	sort.Strings(names)
	for _, name := range names {
		if !strings.Contains(name, "70000") && !strings.Contains(name, "more") {
			l = append(l, of[name])
		}
	}
	return l
}

func TestExample(t *testing.T) { // P20.2, P20.3
	p := only("push 1", "emit", "ret")
	stacksAre(t, p, 0, typing.Types{Of: [][]api.Type{nil, {api.Int}, nil}, Reached: []bool{true, true, true}}, api.OK, 0)
	effectIs(t, p, 0, 0, nil, types("i"), 0)
	holds(t, p)
}

func TestOfAny(t *testing.T) { // P20.1 to P20.4
	d := dice(1)
	for range 700 {
		p := d.program(1+d.roll(4), 24, 4)
		holds(t, p)
		holds(t, d.spoiled(p))
		holds(t, d.spoiled(d.spoiled(p)))
	}
	for range 40 {
		effects(t, d.spoiled(d.program(1+d.roll(3), 24, 4)))
	}
	for _, p := range programs() {
		holds(t, p)
	}
}

func TestSoundOfAny(t *testing.T) { // P20.4: of many functions with which nothing is wrong, and of such that had one thing changed
	d := dice(204)
	fine, full := 0, 0
	for k := range 700 {
		p := d.program(1+d.roll(3), 20+k, 5)
		for f := range p.Funcs {
			told, err, n := typing.Stacks(p, f)
			if err != api.OK {
				t.Errorf("nothing is wrong with function %d, and Stacks tells %d, %d: %s", f, err, n, show(p))
			}
			if typing.High(told) == mostStack {
				full++
			}
			sound(t, p, f)
			fine++
		}
		p = d.spoiled(p)
		for f := range p.Funcs {
			sound(t, p, f)
		}
	}
	if fine < 1000 || full < 30 {
		t.Errorf("of %d functions with which nothing is wrong %d have full stacks: too few to tell", fine, full)
	}
}

func TestTheTestsProgramsAreOfAllKinds(t *testing.T) { // P20.3: else they tell too little
	d := dice(1)
	met := map[api.Errno]int{}
	some := 0
	for range 700 {
		p := d.spoiled(d.program(1+d.roll(4), 24, 4))
		for f := range p.Funcs {
			told, err, n := stacks(p, f)
			met[err]++
			if slices.Contains(told.Reached, false) || n > 5 {
				some++
			}
		}
	}
	for _, err := range []api.Errno{api.OK, api.ErrArg, api.ErrType, api.ErrStack, api.ErrJump, api.ErrCall, api.ErrPlace} {
		if met[err] < 8 {
			t.Errorf("Stacks tells %d of %d functions of the tests: too few to tell, %v", err, met[err], met)
		}
	}
	if some < 200 {
		t.Errorf("of %d functions some is not reached, or an error is met late: too few to tell", some)
	}
}

// face is a call of typing with a program: what it tells.
type face struct {
	name string
	call func(p api.Program) any
}

// numbers tells some numbers from 0 on below n, and some that are not.
func numbers(n int) []int {
	l := []int{-1, n, least, greatest}
	for k := range min(n, 60) {
		l = append(l, k)
	}
	return l
}

// each tells what is told of each function and instruction, and of some that there are not.
func each[T any](call func(p api.Program, f, pc int) T) func(p api.Program) any {
	return func(p api.Program) any {
		var told []T
		for _, f := range numbers(len(p.Funcs)) {
			n := 0
			if f >= 0 && f < len(p.Funcs) {
				n = len(p.Funcs[f].Code)
			}
			for _, pc := range numbers(n) {
				told = append(told, call(p, f, pc))
			}
		}
		return told
	}
}

// answer is what Effect, or Stacks, or At tells.
type answer struct {
	st    []api.Type
	types typing.Types
	err   api.Errno
	n     int
	ok    bool
}

// stacksOf tells what Stacks tells of each function, with High, and At of each instruction.
func stacksOf(p api.Program) any {
	var told []answer
	for _, f := range numbers(len(p.Funcs)) {
		x, err, n := typing.Stacks(p, f)
		told = append(told, answer{types: x, err: err, n: n}, answer{n: typing.High(x)})
		for _, pc := range numbers(len(x.Of)) {
			st, ok := typing.At(x, pc)
			told = append(told, answer{st: st, ok: ok})
		}
	}
	return told
}

func faces() []face {
	l := []face{{"Owner", each(typing.Owner)}, {"Stacks", stacksOf}}
	for _, s := range []string{"", "ic", "iiiiiiiiii", "cccc", "?0-", strings.Repeat("i", mostStack), strings.Repeat("c", mostStack+1)} {
		l = append(l, face{"Effect upon " + s, each(func(p api.Program, f, pc int) answer {
			st, err := typing.Effect(p, f, pc, types(s))
			return answer{st: st, err: err}
		})})
	}
	return l
}

func TestOfWhatMayNotBe(t *testing.T) { // R1: no call panics, and each ends; of what is not there nothing is told
	for name, p := range wrongs() {
		t.Run(name, func(t *testing.T) {
			if file.Can(p) == api.OK {
				t.Errorf("it can be laid: %s", show(p))
			}
			for _, x := range faces() {
				x.call(p)
			}
			few := p
			few.Funcs = p.Funcs[:min(len(p.Funcs), 50)]
			nothing(t, few)
			for f := range few.Funcs {
				told, err, n := typing.Stacks(p, f)
				if err == api.OK && (len(told.Of) != len(p.Funcs[f].Code) || len(told.Reached) != len(told.Of) || n != 0) {
					t.Errorf("Stacks of %d tells of %d and %d instructions, and %d", f, len(told.Of), len(told.Reached), n)
				}
				if err != api.OK && (told.Of != nil || told.Reached != nil) {
					t.Errorf("Stacks of %d tells Types beside %d", f, err)
				}
			}
		})
	}
}

func TestChangedPrograms(t *testing.T) { // R1: numbers that may not be, one or several, among such that may
	d := dice(77)
	ends := []int{least, least + 1, -2, -1, 0, 1, 2, 7, mostNodes - 1, mostNodes, mostCode - 1, mostCode, greatest - 1, greatest}
	for range 2500 {
		p := d.program(1+d.roll(3), 12, 3)
		for range 1 + d.roll(4) {
			f := &p.Funcs[d.roll(len(p.Funcs))]
			v, pc := ends[d.roll(len(ends))], d.roll(len(f.Code))
			switch d.roll(8) {
			case 0:
				f.Code[pc].A = v
			case 1:
				f.Code[pc].Op = api.Op(v)
			case 2:
				f.Params = append(f.Params, api.Type(v))
			case 3:
				f.Outer, f.Inner = append(f.Outer, api.Type(v)), true
			case 4:
				f.At = append(f.At[:min(pc, len(f.At))], v)
			case 5:
				f.Nodes = f.Nodes[:min(pc, len(f.Nodes))]
			case 6:
				f.Results = times(100, api.Type(v%3))
			case 7:
				for k := range f.Nodes {
					f.Nodes[k].Resume, f.Nodes[k].Func = v, v
				}
			}
		}
		for _, x := range faces() {
			x.call(p)
		}
		nothing(t, p)
	}
}

func TestItHangsOnNothingElse(t *testing.T) { // P20.1 to P20.3: not on names and lines, nor on what slots matter, nor on what the nodes are else
	for _, p := range programs() {
		q := file.Copy(p)
		for f := range q.Funcs {
			g := &q.Funcs[f]
			g.Name = fmt.Sprint("other", f)
			for k := range g.Nodes {
				x := &g.Nodes[k]
				x.Args, x.From, x.To = 1, k, k+1
				x.Line = min(k, 1) * 65535
			}
			for k := range g.Lines {
				g.Lines[k] = 65535 - k
			}
			for k, i := range g.Code {
				if i.Op == api.Push {
					g.Code[k].A = greatest - i.A
				}
			}
		}
		for _, x := range faces() {
			if !reflect.DeepEqual(x.call(p), x.call(q)) {
				t.Errorf("%s of %s: %v, of %s: %v", x.name, show(p), show(x.call(p)), show(q), show(x.call(q)))
			}
		}
	}
}

// emptied tells p with lists that are empty in the place of such that are nil.
func emptied(p api.Program) api.Program {
	p = file.Copy(p)
	for f := range p.Funcs {
		g := &p.Funcs[f]
		for _, l := range []*[]api.Type{&g.Outer, &g.Params, &g.Results, &g.Locals} {
			if len(*l) == 0 {
				*l = []api.Type{}
			}
		}
		if len(g.Nodes) == 0 {
			g.Nodes, g.At, g.Live = []api.Node{}, []int{}, []api.Set{}
		}
	}
	return p
}

func TestEmptyListsAreAsNone(t *testing.T) { // P20.1 to P20.3, R3
	for _, p := range programs() {
		q := emptied(p)
		holds(t, q)
		for f, g := range p.Funcs {
			for pc := range g.Code[:min(len(g.Code), 40)] {
				want, err := effect(p, f, pc, nil)
				effectIs(t, q, f, pc, []api.Type{}, want, err)
				effectIs(t, p, f, pc, nil, want, err)
			}
		}
	}
	nothing(t, api.Program{Funcs: []api.Func{}})
	highIs(t, typing.Types{Of: [][]api.Type{}, Reached: []bool{}}, 0)
	atIs(t, typing.Types{Of: [][]api.Type{}, Reached: []bool{}}, 0, nil, false)
	highIs(t, typing.Types{Of: [][]api.Type{{}, nil}}, 0)
	atIs(t, typing.Types{Of: [][]api.Type{{}, nil}, Reached: []bool{true, true}}, 0, nil, true)
}

func TestTheSameEachTime(t *testing.T) { // P20.1 to P20.3, R4: forward and backward, also behind what may not be
	l := all()
	for _, x := range faces() {
		var first []any
		for _, p := range l {
			first = append(first, x.call(p))
		}
		for k, p := range slices.Backward(l) {
			if got := x.call(p); !reflect.DeepEqual(got, first[k]) {
				t.Errorf("%s of %s, asked again: %s, want %s", x.name, show(p), show(got), show(first[k]))
			}
		}
	}
}

func TestManyAtOnce(t *testing.T) { // P20.1 to P20.3, R4: whatever else is asked at the same time
	l := all()
	ask := func() []any {
		var told []any
		for _, p := range l {
			for _, x := range faces() {
				told = append(told, x.call(p))
			}
		}
		return told
	}
	want := ask()
	var all sync.WaitGroup
	for range 4 {
		all.Go(func() {
			if !reflect.DeepEqual(ask(), want) {
				t.Errorf("calls at the same time tell other things")
			}
		})
	}
	all.Wait()
}

// roomy tells l in memory of its own, with room behind its end in which v stands; an empty one has room too.
func roomy[T any](l []T, v T) []T {
	n := len(l)
	return slices.Concat(l, times(5, v))[:n]
}

// room tells all of l, and of the room behind its end.
func room[T any](l []T) []T { return slices.Clone(l[:cap(l)]) }

// spacious tells p with room behind each of its lists, in which stands what would be other answers.
func spacious(p api.Program) api.Program {
	p.Funcs = roomy(p.Funcs, api.Func{Inner: true, Outer: types("icic")})
	for k := range p.Funcs {
		f := &p.Funcs[k]
		f.Outer, f.Params, f.Results, f.Locals = roomy(f.Outer, 1), roomy(f.Params, 2), roomy(f.Results, 1), roomy(f.Locals, 2)
		f.Code, f.Lines = roomy(f.Code, api.Instr{Op: api.Jump}), roomy(f.Lines, 77)
		f.Nodes, f.At, f.Live = roomy(f.Nodes, api.Node{Resume: 1}), roomy(f.At, 1), roomy(f.Live, api.Set{80})
	}
	return p
}

// kept tells a copy of p, and of all room behind its lists.
func kept(p api.Program) api.Program {
	p.Funcs = room(p.Funcs)
	for k := range p.Funcs {
		f := &p.Funcs[k]
		f.Outer, f.Params, f.Results, f.Locals = room(f.Outer), room(f.Params), room(f.Results), room(f.Locals)
		f.Code, f.Lines = room(f.Code), room(f.Lines)
		f.Nodes, f.At, f.Live = room(f.Nodes), room(f.At), room(f.Live)
	}
	return p
}

func TestWhatIsHandedInIsNotChanged(t *testing.T) { // P20.1 to P20.3, R3: nor what lies behind a list's end, nor does that count
	for _, p := range all() {
		q := spacious(p)
		before := kept(q)
		for _, x := range faces() {
			if got, want := x.call(q), x.call(p); !reflect.DeepEqual(got, want) {
				t.Errorf("%s of %s, with room behind each list: %s, want %s", x.name, show(p), show(got), show(want))
			}
			if !reflect.DeepEqual(kept(q), before) {
				t.Fatalf("%s of %s: changes what is handed in", x.name, show(p))
			}
		}
	}
}

func TestStacksHandedInAreNotChanged(t *testing.T) { // P20.2, R3: nor what lies behind their ends, nor does that count
	for _, p := range []api.Program{host(), programs()[10], programs()[13]} {
		for f, g := range p.Funcs {
			for pc := range g.Code {
				for _, st := range append(tried(), types("ciiiiiiii"), types("iicc")) {
					given := roomy(st, api.Int)
					before := room(given)
					want, err := effect(p, f, pc, st)
					effectIs(t, p, f, pc, given, want, err)
					told, _ := typing.Effect(p, f, pc, given)
					if !slices.Equal(room(given), before) {
						t.Fatalf("Effect of %v upon %v: changes it: %v", g.Code[pc], st, room(given))
					}
					scrawl(told, 9)
					if !slices.Equal(room(given), before) {
						t.Fatalf("Effect of %v upon %v: what is told shares memory with it", g.Code[pc], st)
					}
					told, _ = typing.Effect(p, f, pc, given)
					scrawl(given, 9)
					if !slices.Equal(told, want) {
						t.Fatalf("Effect of %v upon %v: what is told changes with it: %v, want %v", g.Code[pc], st, told, want)
					}
				}
			}
		}
	}
}

func TestTypesHandedInAreNotChanged(t *testing.T) { // P20.3, R3: nor are they shared
	x := typing.Types{Of: roomy([][]api.Type{types("i"), nil, types("cic"), roomy(nil, api.Cx)}, types("iiiiiiiii")), Reached: roomy([]bool{true, true, true, true}, true)}
	for range 2 {
		highIs(t, x, 3)
		for pc, want := range []string{"i", "", "cic", ""} {
			st, _ := typing.At(x, pc)
			scrawl(st, 9)
			atIs(t, x, pc, types(want), true)
		}
		atIs(t, x, 4, nil, false)
	}
	st, _ := typing.At(x, 2)
	scrawl(x.Of[2], 9)
	if !slices.Equal(st, types("cic")) {
		t.Errorf("what At told changes with what was handed in: %v", st)
	}
}

func TestWhatIsHandedInIsNotKept(t *testing.T) { // P20.1 to P20.3, R3: changed behind the call, it changes no answer
	for _, p := range programs() {
		for _, x := range faces() {
			q := file.Copy(p)
			told, want := x.call(q), x.call(p)
			for k := range q.Funcs {
				f := &q.Funcs[k]
				for _, l := range [][]api.Type{f.Outer, f.Params, f.Results, f.Locals} {
					scrawl(l, 9)
				}
				scrawl(f.Code, api.Instr{Op: api.Jump, A: 1234})
				scrawl(f.At, 99)
				scrawl(f.Nodes, api.Node{Parent: 5, Resume: 1234})
			}
			scrawl(q.Funcs, api.Func{})
			if !reflect.DeepEqual(told, want) {
				t.Errorf("%s of %s: what was told changes with what was handed in", x.name, show(p))
			}
		}
	}
}

// scrawl overwrites a list, and all room behind its end.
func scrawl[T any](l []T, v T) {
	for k := range l[:cap(l)] {
		l[:cap(l)][k] = v
	}
}

// copied tells x in new memory.
func copied(x typing.Types) typing.Types {
	y := typing.Types{Reached: slices.Clone(x.Reached)}
	for _, st := range x.Of {
		y.Of = append(y.Of, slices.Clone(st))
	}
	return y
}

func TestWhatIsToldIsNewMemory(t *testing.T) { // P20.2, P20.3, R3: it shares none with what is handed in, nor with what is told later
	for _, p := range programs() {
		q := spacious(p)
		before := kept(q)
		for f, g := range q.Funcs {
			for pc := range g.Code[:min(len(g.Code), 40)] {
				for _, st := range [][]api.Type{nil, types("i"), types("c"), types("iccii"), types("cii")} {
					a, _ := typing.Effect(q, f, pc, st)
					b, err := typing.Effect(q, f, pc, st)
					want := slices.Clone(b)
					scrawl(a, 9)
					if !slices.Equal(b, want) {
						t.Fatalf("two that Effect tells of %s share memory", show(p))
					}
					effectIs(t, q, f, pc, st, want, err)
				}
			}
			a, _, _ := typing.Stacks(q, f)
			b, err, n := typing.Stacks(q, f)
			want := copied(b)
			for _, st := range a.Of {
				scrawl(st, 9)
			}
			scrawl(a.Of, types("?"))
			scrawl(a.Reached, false)
			if !sameTypes(b, want) {
				t.Fatalf("two that Stacks tells of %s share memory", show(p))
			}
			stacksAre(t, q, f, want, err, n)
		}
		if !reflect.DeepEqual(kept(q), before) {
			t.Fatalf("what is told of %s shares memory with it", show(p))
		}
	}
}

func TestStacksShareNone(t *testing.T) { // P20.3, R3: no two of one answer, nor what At tells of them
	for _, p := range programs() {
		for f := range p.Funcs {
			told, _, _ := typing.Stacks(p, f)
			want := copied(told)
			for pc := range told.Of[:min(len(told.Of), 200)] {
				st, _ := typing.At(told, pc)
				scrawl(st, 8)
				if !sameTypes(told, want) {
					t.Fatalf("what At tells of %d of %s shares memory with it", pc, show(p))
				}
				scrawl(told.Of[pc], 9)
				want.Of[pc] = times(len(want.Of[pc]), api.Type(9))
				if !sameTypes(told, want) {
					t.Fatalf("the stack ahead of %d of %s shares memory with another one", pc, show(p))
				}
			}
		}
	}
}

func FuzzProgram(f *testing.F) {
	f.Add(uint64(1), 3, 2, 1)
	f.Add(uint64(2), 40, 0, 0)
	f.Add(uint64(3), 90, 20, 3)
	f.Fuzz(func(t *testing.T, seed uint64, n, nodes, spoils int) {
		d := dice(seed)
		p := d.program(1+d.roll(4), 1+int(uint(n)%200), int(uint(nodes)%(mostNodes+1)))
		for range uint(spoils) % 5 {
			p = d.spoiled(p)
		}
		holds(t, p)
		effects(t, p)
	})
}
