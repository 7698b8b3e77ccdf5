package dis_test

import (
	"fmt"
	"math"
	"reflect"
	"slices"
	"strconv"
	"strings"
	"sync"
	"testing"

	"inlay/api"
	"inlay/dis"
	"inlay/instr"
	"inlay/tree"
)

const (
	least    = math.MinInt
	greatest = math.MaxInt
)

type types = []api.Type

// times tells n things alike.
func times[T any](n int, v T) []T {
	return slices.Repeat([]T{v}, n)
}

// set tells the set of numbers from 0 to 255.
func set(l ...int) api.Set {
	var s api.Set
	for _, n := range l {
		s[n/64] |= 1 << (n % 64)
	}
	return s
}

// full tells the set of all slots.
func full() api.Set {
	return api.Set{math.MaxUint64, math.MaxUint64, math.MaxUint64, math.MaxUint64}
}

// word is what the chapters say that an instruction is called, and how many operands it may have: none at all, any, or those from 0 on.
type word struct {
	name string
	many int
}

const anyNumber = -1

// words tells that of each instruction, in the order of their numbers.
func words() []word {
	return []word{
		{"nop", 0}, {"push", anyNumber}, {"load", 256}, {"store", 256}, {"pop", 0}, {"dup", 0},
		{"add", 0}, {"sub", 0}, {"mul", 0}, {"div", 0}, {"mod", 0}, {"neg", 0}, {"less", 0}, {"same", 0}, {"not", 0},
		{"pair", 0}, {"plus", 0}, {"minus", 0}, {"times", 0}, {"real", 0}, {"imag", 0},
		{"jump", 2000}, {"if", 2000}, {"call", 40}, {"defer", 40}, {"ret", 0}, {"panic", 0}, {"recover", 0}, {"getres", 4}, {"setres", 4},
		{"emit", 0}, {"trace", 0}, {"draw", 0}, {"open", 120}, {"close", 120},
	}
}

// coded tells what the chapters say that the text of i is: none, if it may not be.
func coded(i api.Instr) string {
	if i.Op < 0 || int(i.Op) >= len(words()) {
		return ""
	}
	w := words()[i.Op]
	switch {
	case w.many == 0 && i.A == 0:
		return w.name
	case w.many == anyNumber, 0 <= i.A && i.A < w.many:
		return w.name + " " + fmt.Sprint(i.A)
	}
	return ""
}

// letters tells what the chapters say that the text of a list of types is.
func letters(l types) string {
	s := ""
	for _, t := range l {
		switch t {
		case 1:
			s += "i"
		case 2:
			s += "c"
		default:
			s += "?"
		}
	}
	if len(l) == 0 {
		s = "-"
	}
	return s
}

// head tells what the chapter says that Head tells.
func head(f api.Func) string {
	s := fmt.Sprintf("func %s %s %s %s", f.Name, letters(f.Params), letters(f.Results), letters(f.Locals))
	if f.Inner {
		s += " " + letters(f.Outer)
	}
	return s
}

// rows tells the lines that the chapter says that Func tells.
func rows(f api.Func) []string {
	l := []string{head(f)}
	for k, i := range f.Code {
		line := 0
		if k < len(f.Lines) {
			line = f.Lines[k]
		}
		l = append(l, strconv.Itoa(line)+" "+coded(i))
	}
	return append(l, "end")
}

// text tells the text of lines, each ended by a byte 10.
func text(l ...string) string {
	return strings.Join(append(slices.Clone(l), ""), "\n")
}

// program tells the program of functions.
func program(l ...api.Func) api.Program { return api.Program{Funcs: l} }

// written tells what the chapter says that Text tells.
func written(p api.Program) string {
	var l []string
	for _, f := range p.Funcs {
		l = append(l, rows(f)...)
	}
	return text(l...)
}

// tables tells what the chapter says that Tables tells.
func tables(f api.Func) string {
	if len(f.Nodes)+len(f.At)+len(f.Live) == 0 {
		return ""
	}
	var l []string
	for k := range f.Code {
		node, s := 0, api.Set{}
		if k < len(f.At) {
			node = f.At[k]
		}
		if k < len(f.Live) {
			s = f.Live[k]
		}
		row := fmt.Sprintf("%d %d", k, node)
		for slot := range 256 {
			if s[slot/64]>>(slot%64)&1 == 1 {
				row += fmt.Sprintf(" %d", slot)
			}
		}
		l = append(l, row)
	}
	return tree.Text(f.Nodes) + text(l...)
}

// short tells as much of a text as may be shown.
func short(s string) string {
	return fmt.Sprintf("%d bytes %q", len(s), s[:min(len(s), 300)])
}

// show tells as much of what was handed in as may be shown.
func show(v any) string { return short(fmt.Sprintf("%+v", v)) }

// is holds what was told of v against what should be.
func is(t *testing.T, what string, v any, got, want string) {
	t.Helper()
	if got == want {
		return
	}
	at := 0
	for at < min(len(got), len(want)) && got[at] == want[at] {
		at++
	}
	t.Errorf("%s of %s: other from byte %d on: %s, want %s", what, show(v), at, short(got[at:]), short(want[at:]))
}

func headIs(t *testing.T, f api.Func, want string) {
	t.Helper()
	is(t, "Head", f, dis.Head(f), want)
}

func funcIs(t *testing.T, f api.Func, l ...string) {
	t.Helper()
	is(t, "Func", f, dis.Func(f), text(l...))
}

func textIs(t *testing.T, p api.Program, want string) {
	t.Helper()
	is(t, "Text", p, dis.Text(p), want)
}

func tablesAre(t *testing.T, f api.Func, want string) {
	t.Helper()
	is(t, "Tables", f, dis.Tables(f), want)
}

// holds holds all that is told of f against the chapter.
func holds(t *testing.T, f api.Func) {
	t.Helper()
	headIs(t, f, head(f))
	funcIs(t, f, rows(f)...)
	textIs(t, program(f), text(rows(f)...))
	tablesAre(t, f, tables(f))
}

// dice tells numbers that look like any, the same ones each time.
type dice uint64

func (d *dice) roll(n int) int {
	*d = *d*6364136223846793005 + 1442695040888963407
	return int(*d >> 33 % dice(n))
}

func (d *dice) types(most int) types {
	var l types
	for range d.roll(most + 1) {
		l = append(l, api.Type(1+d.roll(2)))
	}
	return l
}

// instr tells an instruction that may be.
func (d *dice) instr() api.Instr {
	for {
		i := api.Instr{Op: api.Op(d.roll(int(api.Ops)))}
		if d.roll(2) == 0 {
			i.A = []int{1, 3, 39, 119, 255, 1999, -1, least, greatest, 70}[d.roll(10)]
		}
		if instr.Right(i) {
			return i
		}
	}
}

// function tells a function without tables that can be laid, of that name.
func (d *dice) function(name string) api.Func {
	f := api.Func{Name: name, Inner: d.roll(2) == 0, Params: d.types(8), Results: d.types(4), Locals: d.types(12)}
	if f.Inner {
		f.Outer = d.types(4)
	}
	for range 1 + d.roll(12) {
		f.Code = append(f.Code, d.instr())
		f.Lines = append(f.Lines, d.roll(1+d.roll(65536)))
	}
	return f
}

// program tells a program of n functions without tables that can be laid.
func (d *dice) program(n int) api.Program {
	var p api.Program
	for k := range n {
		p.Funcs = append(p.Funcs, d.function(fmt.Sprintf("%c%s%d", 'a'+d.roll(26), "_0xyz"[d.roll(5):], k)))
	}
	return p
}

// nodes tells a tree of n nodes that may be.
func (d *dice) nodes(n int) []api.Node {
	l := []api.Node{{Parent: -1, Func: d.roll(40), To: 3}}
	for k := 1; k < n; k++ {
		l = append(l, api.Node{Parent: d.roll(k), Func: d.roll(40), Line: d.roll(65536), From: 2 + k, To: 3 + k, Resume: 1 + d.roll(1999)})
	}
	return l
}

// tabled tells f with tables that may be.
func (d *dice) tabled(f api.Func) api.Func {
	f.Nodes, f.At, f.Live = d.nodes(1+d.roll(1+d.roll(120))), nil, nil
	f.Locals = times(244, api.Cx)
	for range f.Code {
		f.At = append(f.At, d.roll(len(f.Nodes)))
		var s api.Set
		for range d.roll(9) {
			n := d.roll(len(f.Params) + len(f.Results) + len(f.Locals))
			s[n/64] |= 1 << (n % 64)
		}
		f.Live = append(f.Live, s)
	}
	return f
}

// plain tells a function of as little as may be.
func plain(name string) api.Func {
	return api.Func{Name: name, Code: []api.Instr{{Op: api.Ret}}, Lines: []int{1}}
}

// row tells a program of n plain functions.
func row(n int) api.Program {
	var p api.Program
	for k := range n {
		p.Funcs = append(p.Funcs, plain(fmt.Sprintf("f%d", k)))
	}
	return p
}

// whole tells a function that has some of everything.
func whole() api.Func {
	return api.Func{
		Name: "step_2", Inner: true, Outer: types{1, 2},
		Params: types{2, 1, 1}, Results: types{1}, Locals: types{2, 2},
		Code:  []api.Instr{{Op: api.Push, A: -3}, {Op: api.Store, A: 3}, {Op: api.Open, A: 1}, {Op: api.Load, A: 1}, {Op: api.Close, A: 1}, {Op: api.Ret}},
		Lines: []int{7, 7, 9, 65535, 0, 9},
		Nodes: []api.Node{{Parent: -1, Func: 2, To: 3}, {Func: 39, Line: 7, From: 3, Args: 1, To: 6, Resume: 5}},
		At:    []int{0, 0, 1, 1, 1, 0},
		Live:  []api.Set{{}, set(0), set(0, 5), set(5, 0, 3), set(1), set(1)},
	}
}

// wrongs tells functions that can't be laid, and such of which nothing is right at all.
func wrongs() map[string]api.Func {
	with := func(change func(f *api.Func)) api.Func {
		f := whole()
		change(&f)
		return f
	}
	odd := types{0, 3, -1, 4, 255, 256, 257, 258, 1<<32 + 1, 1<<32 + 2, least, least + 1, greatest}
	ends := []int{least, greatest, -1, 65536, 0, 120}
	return map[string]api.Func{
		"the zero one":            {},
		"the zero one, but Inner": {Inner: true},
		"Outer, not Inner":        with(func(f *api.Func) { f.Inner = false }),
		"types that are none":     with(func(f *api.Func) { f.Outer, f.Params, f.Results, f.Locals = odd, odd, odd, odd }),
		"more types than may be": with(func(f *api.Func) {
			f.Outer, f.Params, f.Results, f.Locals = times(5, api.Int), times(9, api.Cx), times(300, api.Int), times(70000, api.Cx)
		}),
		"no instructions": with(func(f *api.Func) { f.Code = nil }),
		"instructions that may not be": with(func(f *api.Func) {
			f.Code = []api.Instr{{Op: api.Ops}, {Op: -1}, {Op: api.Ret, A: 1}, {Op: api.Load, A: 256}, {Op: api.Op(least), A: greatest}, {Op: api.Op(greatest), A: least}}
		}),
		"2001 instructions":        with(func(f *api.Func) { f.Code = times(2001, api.Instr{Op: api.Dup}) }),
		"70000 instructions":       with(func(f *api.Func) { f.Code = times(70000, api.Instr{Op: api.Push, A: least}) }),
		"no lines":                 with(func(f *api.Func) { f.Lines = nil }),
		"fewer lines":              with(func(f *api.Func) { f.Lines = f.Lines[:4:4] }),
		"more lines":               with(func(f *api.Func) { f.Lines = times(70000, 5) }),
		"lines that may not be":    with(func(f *api.Func) { f.Lines = slices.Clone(ends) }),
		"Nodes alone":              with(func(f *api.Func) { f.At, f.Live = nil, nil }),
		"At alone":                 with(func(f *api.Func) { f.Nodes, f.Live = nil, nil }),
		"Live alone":               with(func(f *api.Func) { f.Nodes, f.At = nil, nil }),
		"no Nodes":                 with(func(f *api.Func) { f.Nodes = nil }),
		"no At":                    with(func(f *api.Func) { f.At = nil }),
		"no Live":                  with(func(f *api.Func) { f.Live = nil }),
		"fewer of At":              with(func(f *api.Func) { f.At = f.At[:3:3] }),
		"more of At":               with(func(f *api.Func) { f.At = times(70000, 1) }),
		"fewer of Live":            with(func(f *api.Func) { f.Live = f.Live[:3:3] }),
		"more of Live":             with(func(f *api.Func) { f.Live = times(70000, full()) }),
		"nodes of At that are not": with(func(f *api.Func) { f.At = slices.Clone(ends) }),
		"slots that it has not":    with(func(f *api.Func) { f.Live = times(6, full()) }),
		"nodes in a circle":        with(func(f *api.Func) { f.Nodes = []api.Node{{Parent: 1}, {Parent: 2}, {}} }),
		"a node in itself":         with(func(f *api.Func) { f.Nodes = []api.Node{{}} }),
		"nodes at their ends": with(func(f *api.Func) {
			f.Nodes = []api.Node{{Parent: least, Func: greatest, Line: least, From: greatest, Args: greatest, To: greatest, Resume: least}, {Parent: greatest, Func: least, Line: greatest}}
		}),
		"more nodes than may be": with(func(f *api.Func) { f.Nodes = make([]api.Node, 3000) }),
		"tables, and no code":    {Nodes: []api.Node{{Parent: -1}}, At: []int{0}, Live: []api.Set{full()}},
		"far too much":           {Code: make([]api.Instr, 70000), Lines: make([]int, 70000), At: make([]int, 70000), Live: make([]api.Set, 70000), Nodes: make([]api.Node, 70000)},
		"another name":           with(func(f *api.Func) { f.Name = "A \n\xff\x00é" }),
		"no name":                with(func(f *api.Func) { f.Name = "" }),
		"a long name":            with(func(f *api.Func) { f.Name = strings.Repeat("\xff", 70000) }),
	}
}

// all tells functions of all kinds, those that can be laid and those that can't.
func all() []api.Func {
	l := []api.Func{whole(), plain("f")}
	of := wrongs()
	names := []string{}
	for name := range of {
		names = append(names, name)
	}
	slices.Sort(names)
	for _, name := range names {
		l = append(l, of[name])
	}
	d := dice(18)
	for k := range 20 {
		f := d.function(fmt.Sprintf("f%d", k))
		l = append(l, f, d.tabled(f))
	}
	return l
}

func TestExample(t *testing.T) { // P18.1
	headIs(t, api.Func{Name: "f"}, "func f - - -")
}

func TestOfWhatMayNotBe(t *testing.T) { // P18.1, P18.2, R1: no call panics, and each tells what there is
	for name, f := range wrongs() {
		t.Run(name, func(t *testing.T) { holds(t, f) })
	}
}

func TestProgramsOfWhatMayNotBe(t *testing.T) { // P18.1, R1: also beside functions that may be
	var p api.Program
	for _, f := range wrongs() {
		p.Funcs = append(p.Funcs, f, plain("f"))
		textIs(t, program(plain("a"), f, plain("b")), text("func a - - -", "1 ret", "end")+text(rows(f)...)+text("func b - - -", "1 ret", "end"))
	}
	textIs(t, p, written(p))
	textIs(t, program(make([]api.Func, 5000)...), strings.Repeat("func  - - -\nend\n", 5000))
}

func TestOfAny(t *testing.T) { // P18.1, P18.2
	d := dice(2)
	for range 400 {
		f := d.function("abz_0959klmn"[d.roll(3):][:1+d.roll(9)])
		holds(t, f)
		holds(t, d.tabled(f))
	}
}

// face is a call of dis with a function, or with the program of it alone.
type face struct {
	name string
	call func(f api.Func) string
}

func faces() []face {
	return []face{
		{"Head", dis.Head},
		{"Func", dis.Func},
		{"Text", func(f api.Func) string { return dis.Text(program(f)) }},
		{"Text of three", func(f api.Func) string { return dis.Text(program(plain("f"), f, f)) }},
		{"Tables", dis.Tables},
	}
}

func TestTheSameEachTime(t *testing.T) { // P18.1, P18.2, R4: forward and backward, also behind what may not be
	l := all()
	for _, x := range faces() {
		var first []string
		for _, f := range l {
			first = append(first, x.call(f))
		}
		for k, f := range slices.Backward(l) {
			is(t, x.name+", asked again", f, x.call(f), first[k])
		}
	}
}

func TestManyAtOnce(t *testing.T) { // P18.1, P18.2, R4: whatever else is asked at the same time
	l := all()
	ask := func() []string {
		var told []string
		for _, f := range l {
			for _, x := range faces() {
				told = append(told, x.call(f))
			}
		}
		return told
	}
	want := ask()
	var all sync.WaitGroup
	for range 8 {
		all.Go(func() {
			if !slices.Equal(ask(), want) {
				t.Errorf("calls at the same time tell other things")
			}
		})
	}
	all.Wait()
}

// roomy tells l in memory of its own, with room behind its end in which v stands; an empty one has room too.
func roomy[T any](l []T, v T) []T {
	n := len(l)
	return slices.Concat(l, times(5, v))[:n]
}

// room tells all of l, and of the room behind its end.
func room[T any](l []T) []T { return slices.Clone(l[:cap(l)]) }

// spacious tells f with room behind each of its lists.
func spacious(f api.Func) api.Func {
	f.Outer, f.Params, f.Results, f.Locals = roomy(f.Outer, 71), roomy(f.Params, 72), roomy(f.Results, 73), roomy(f.Locals, 74)
	f.Code, f.Lines = roomy(f.Code, api.Instr{Op: 75, A: 76}), roomy(f.Lines, 77)
	f.Nodes, f.At, f.Live = roomy(f.Nodes, api.Node{Parent: 78, Func: 79}), roomy(f.At, 80), roomy(f.Live, full())
	return f
}

// kept tells a copy of f, and of all room behind its lists.
func kept(f api.Func) api.Func {
	f.Outer, f.Params, f.Results, f.Locals = room(f.Outer), room(f.Params), room(f.Results), room(f.Locals)
	f.Code, f.Lines = room(f.Code), room(f.Lines)
	f.Nodes, f.At, f.Live = room(f.Nodes), room(f.At), room(f.Live)
	return f
}

func TestWhatIsHandedInIsNotChanged(t *testing.T) { // P18.1, P18.2, R3: nor what lies behind a list's end, nor does that count
	for _, f := range all() {
		g := spacious(f)
		before := kept(g)
		for _, x := range faces() {
			is(t, x.name+", with room behind each list", f, x.call(g), x.call(f))
			if !reflect.DeepEqual(kept(g), before) {
				t.Fatalf("%s of %s: changes what is handed in", x.name, show(f))
			}
		}
	}
}

func TestProgramsHandedInAreNotChanged(t *testing.T) { // P18.1, R3
	d := dice(5)
	for n := range 8 {
		p := program(roomy(d.program(n).Funcs, whole())...)
		before := room(p.Funcs)
		textIs(t, p, written(p))
		if !reflect.DeepEqual(room(p.Funcs), before) {
			t.Errorf("Text of %d functions: changes what is handed in", n)
		}
	}
}

func TestWhatIsHandedInIsNotKept(t *testing.T) { // P18.1, P18.2, R3: changed behind the call, it changes no answer
	for _, x := range faces() {
		f, g := spacious(whole()), spacious(whole())
		told := x.call(f)
		f.Outer[0], f.Params[0], f.Results[0], f.Locals[0] = 7, 7, 7, 7
		f.Code[0], f.Lines[0], f.Nodes[0], f.At[0], f.Live[0] = api.Instr{}, 99, api.Node{Func: 9}, 9, full()
		is(t, x.name+", behind a change", g, told, x.call(g))
		if x.call(f) == told && x.name != "Head" && x.name != "Tables" {
			t.Errorf("%s of %s: as ahead of the change", x.name, show(f))
		}
	}
}
