package file_test

import (
	"fmt"
	"math"
	"reflect"
	"slices"
	"strings"
	"testing"

	"inlay/api"
	"inlay/file"
	"inlay/fnc"
	"inlay/instr"
)

const (
	least    = math.MinInt
	greatest = math.MaxInt
)

type types = []api.Type

// set tells the set of numbers from 0 to 255.
func set(l ...int) api.Set {
	var s api.Set
	for _, n := range l {
		s[n/64] |= 1 << (n % 64)
	}
	return s
}

// times tells n things alike.
func times[T any](n int, v T) []T {
	return slices.Repeat([]T{v}, n)
}

// with tells l with v at a place, if there is that place, in memory of its own.
func with[T any](l []T, at int, v T) []T {
	l = slices.Clone(l)
	if at >= 0 && at < len(l) {
		l[at] = v
	}
	return l
}

// grown tells l with v behind it, in memory of its own.
func grown[T any](l []T, v T) []T {
	return append(slices.Clone(l), v)
}

// plain tells a function with as little as may be.
func plain() api.Func {
	return api.Func{Name: "f", Code: []api.Instr{{Op: api.Ret}}, Lines: []int{1}}
}

// whole tells a function that has some of everything: six slots, two nodes.
func whole() api.Func {
	return api.Func{
		Name: "step_2", Inner: true, Outer: types{api.Int, api.Cx},
		Params: types{api.Cx, api.Int, api.Int}, Results: types{api.Int}, Locals: types{api.Cx, api.Cx},
		Code:  []api.Instr{{Op: api.Push, A: -3}, {Op: api.Store, A: 3}, {Op: api.Open, A: 1}, {Op: api.Load, A: 1}, {Op: api.Close, A: 1}, {Op: api.Ret}},
		Lines: []int{7, 7, 9, 65535, 0, 9},
		Nodes: []api.Node{{Parent: -1, To: 3}, {Func: 39, Line: 7, From: 3, Args: 1, To: 6, Resume: 5}},
		At:    []int{0, 0, 1, 1, 1, 0},
		Live:  []api.Set{{}, set(0), set(0, 5), set(0, 5), set(1), set(1)},
	}
}

// bare tells f without tables.
func bare(f api.Func) api.Func {
	f.Nodes, f.At, f.Live = nil, nil, nil
	return f
}

// named tells f by another name.
func named(f api.Func, name string) api.Func {
	f.Name = name
	return f
}

// kind tells one of six kinds of functions, three of which have tables.
func kind(k int) api.Func {
	switch k % 6 {
	case 0:
		return plain()
	case 1:
		return whole()
	case 2:
		f := plain()
		f.Inner, f.Locals = true, times(256, api.Cx)
		return f
	case 3:
		return bare(whole())
	case 4:
		f := plain()
		f.Nodes, f.At, f.Live = []api.Node{{Parent: -1}}, []int{0}, []api.Set{{}}
		return f
	}
	f := whole()
	f.Inner, f.Outer = false, nil
	return f
}

// of tells a program.
func of(l ...api.Func) api.Program { return api.Program{Funcs: l} }

// row tells n functions of all kinds, none of which has the name of another one.
func row(n int) []api.Func {
	var l []api.Func
	for k := range n {
		l = append(l, named(kind(k), fmt.Sprintf("f%d", k)))
	}
	return l
}

// called tells a program whose functions have these names.
func called(l ...string) api.Program {
	p := of(row(len(l))...)
	for k, s := range l {
		p.Funcs[k].Name = s
	}
	return p
}

// dice tells numbers that look like any, the same ones each time.
type dice uint64

func (d *dice) roll(n int) int {
	*d = *d*6364136223846793005 + 1442695040888963407
	return int(*d >> 33 % dice(n))
}

func (d *dice) types(most int) types {
	l := make(types, d.roll(most+1))
	for k := range l {
		l[k] = api.Type(1 + d.roll(2))
	}
	return l
}

func (d *dice) instr() api.Instr {
	for {
		i := api.Instr{Op: api.Op(d.roll(int(api.Ops)))}
		if d.roll(2) == 0 {
			i.A = []int{1, 3, 39, 119, 255, 1999, -1, least, greatest, 70}[d.roll(10)]
		}
		if instr.Right(i) {
			return i
		}
	}
}

// function tells a function that can be laid.
func (d *dice) function() api.Func {
	f := api.Func{Name: "abz_0959klmn"[d.roll(3):][:1+d.roll(9)], Inner: d.roll(2) == 0}
	if f.Inner {
		f.Outer = d.types(4)
	}
	f.Params, f.Results, f.Locals = d.types(8), d.types(4), d.types(9)
	slots := len(f.Params) + len(f.Results) + len(f.Locals)
	if d.roll(2) == 0 {
		f.Nodes = []api.Node{{Parent: -1, Func: d.roll(40), To: slots}}
		for n := range d.roll(4) {
			f.Nodes = append(f.Nodes, api.Node{Parent: n, Func: d.roll(40), Line: d.roll(9), From: slots + n, To: slots + n + 1, Resume: 1 + n})
		}
	}
	for range 1 + d.roll(12) {
		f.Code = append(f.Code, d.instr())
		f.Lines = append(f.Lines, d.roll(1+d.roll(65536)))
		if len(f.Nodes) > 0 {
			f.At = append(f.At, d.roll(len(f.Nodes)))
			f.Live = append(f.Live, api.Set{})
			if slots > 0 && d.roll(2) == 0 {
				f.Live[len(f.Live)-1] = set(d.roll(slots), d.roll(slots))
			}
		}
	}
	return f
}

// program tells a program that can be laid, or one that would be, but for a name that stands twice.
func (d *dice) program(most int) api.Program {
	var p api.Program
	for k := range 1 + d.roll(most) {
		f := d.function()
		if d.roll(8) > 0 {
			f.Name = fmt.Sprintf("%c%d", 'a'+d.roll(26), k)
		}
		p.Funcs = append(p.Funcs, f)
	}
	return p
}

// rights tells programs that can be laid.
func rights() map[string]api.Program {
	l := map[string]api.Program{
		"names that are alike":         called("a", "aa", "a0", "a_", "aaaaaaaaaaaa", "aaaaaaaaaaab", "b", "ab", "ba"),
		"the same but for their names": of(named(whole(), "a"), named(whole(), "b"), named(whole(), "c")),
		"empty lists":                  of(api.Func{Name: "f", Outer: types{}, Params: types{}, Results: types{}, Locals: types{}, Code: []api.Instr{{Op: api.Ret}}, Lines: []int{1}, Nodes: []api.Node{}, At: []int{}, Live: []api.Set{}}),
	}
	for k := range 6 {
		l[fmt.Sprint("one, kind ", k)] = of(kind(k))
	}
	for _, n := range []int{2, 3, 6, 7, 20, 39, 40} {
		l[fmt.Sprint("functions ", n)] = of(row(n)...)
		behind := row(n)
		slices.Reverse(behind)
		l[fmt.Sprint("functions backward ", n)] = of(behind...)
	}
	d := dice(16)
	for k := 0; k < 60; {
		p := d.program(1 + k%12)
		if unlike(p) {
			l[fmt.Sprint("any ", k)] = p
			k++
		}
	}
	return l
}

// fault is what makes of each function that can be laid one that can't, for that reason.
type fault struct {
	name string
	err  api.Errno
	make func(f *api.Func)
}

// faults tells faults for each of the reasons that fnc names.
func faults() []fault {
	return []fault{
		{"no name", api.ErrName, func(f *api.Func) { f.Name = "" }},
		{"a capital", api.ErrName, func(f *api.Func) { f.Name = "A" }},
		{"a long name", api.ErrName, func(f *api.Func) { f.Name = "abcdefghijklm" }},
		{"five of Outer", api.ErrType, func(f *api.Func) { f.Inner, f.Outer = true, times(5, api.Int) }},
		{"Outer, not Inner", api.ErrType, func(f *api.Func) { f.Inner, f.Outer = false, types{api.Int} }},
		{"nine of Params", api.ErrType, func(f *api.Func) { f.Params = times(9, api.Int) }},
		{"Results that are none", api.ErrType, func(f *api.Func) { f.Results = types{api.Int, 3} }},
		{"257 of Locals", api.ErrType, func(f *api.Func) { f.Locals = times(257, api.Cx) }},
		{"257 slots", api.ErrMany, func(f *api.Func) { f.Params, f.Results, f.Locals = types{1}, nil, times(256, api.Cx) }},
		{"no instruction", api.ErrMany, func(f *api.Func) { f.Code = nil }},
		{"2001 instructions", api.ErrMany, func(f *api.Func) { f.Code = times(2001, api.Instr{}) }},
		{"instruction 35", api.ErrOp, func(f *api.Func) { f.Code = with(f.Code, 0, api.Instr{Op: api.Ops}) }},
		{"slot 256", api.ErrOp, func(f *api.Func) { f.Code = with(f.Code, len(f.Code)-1, api.Instr{Op: api.Load, A: 256}) }},
		{"a line more", api.ErrLine, func(f *api.Func) { f.Lines = grown(f.Lines, 3) }},
		{"line -1", api.ErrLine, func(f *api.Func) { f.Lines = with(f.Lines, 0, -1) }},
		{"line 65536", api.ErrLine, func(f *api.Func) { f.Lines = with(f.Lines, len(f.Lines)-1, 65536) }},
		{"At alone", api.ErrTable, func(f *api.Func) { f.Nodes, f.At, f.Live = nil, times(len(f.Code), 0), nil }},
		{"no tree", api.ErrTable, func(f *api.Func) { f.Nodes, f.Live = nil, times(len(f.Code), api.Set{}) }},
		{"a first node that is none", api.ErrTable, func(f *api.Func) { f.Nodes = []api.Node{{}} }},
		{"At beyond", api.ErrTable, func(f *api.Func) { f.At = times(len(f.Code), max(len(f.Nodes), 1)) }},
		{"a set more", api.ErrTable, func(f *api.Func) { f.Live = times(len(f.Code)+1, api.Set{}) }},
	}
}

// wrongs tells programs that can't be laid.
func wrongs() map[string]api.Program {
	l := map[string]api.Program{
		"no functions":    {},
		"an empty list":   of([]api.Func{}...),
		"41 functions":    of(row(41)...),
		"1000 functions":  of(row(1000)...),
		"zero ones, 3":    of(make([]api.Func, 3)...),
		"zero ones, 41":   of(make([]api.Func, 41)...),
		"a name twice":    called("a", "b", "a"),
		"all alike":       of(times(40, whole())...),
		"all alike, 41":   of(times(41, whole())...),
		"far too many":    of(make([]api.Func, 100000)...),
		"a name, no name": called("", "a", "a"),
		"numbers at their ends": of(plain(), api.Func{
			Name: strings.Repeat("\xff", 1000), Outer: types{least, greatest}, Params: times(1000, api.Type(least)), Locals: times(5000, api.Type(7)),
			Code: []api.Instr{{Op: api.Op(least), A: greatest}, {Op: api.Op(greatest), A: least}}, Lines: []int{least, greatest, -1},
			Nodes: []api.Node{{Parent: least, Func: greatest, From: greatest, Args: greatest, To: greatest, Resume: least}, {}}, At: []int{least, greatest}, Live: []api.Set{{math.MaxUint64}},
		}),
	}
	for _, x := range faults() {
		for _, at := range []int{0, 3, 6} {
			p := of(row(7)...)
			x.make(&p.Funcs[at])
			l[fmt.Sprintf("%s at %d", x.name, at)] = p
		}
	}
	return l
}

// unlike tells whether no name stands twice in p.
func unlike(p api.Program) bool {
	for k := range p.Funcs {
		for j := range k {
			if p.Funcs[j].Name == p.Funcs[k].Name {
				return false
			}
		}
	}
	return true
}

// can tells what the chapter says that Can tells.
func can(p api.Program) api.Errno {
	if len(p.Funcs) == 0 || len(p.Funcs) > 40 {
		return api.ErrMany
	}
	for _, f := range p.Funcs {
		if err := fnc.Can(f); err != api.OK {
			return err
		}
	}
	if !unlike(p) {
		return api.ErrName
	}
	return api.OK
}

// sameFunc tells whether a and b are the same in each field that there is, an empty list being as none.
func sameFunc(a, b api.Func) bool {
	x, y := reflect.ValueOf(a), reflect.ValueOf(b)
	for k := range x.NumField() {
		p, q := x.Field(k), y.Field(k)
		if p.Kind() == reflect.Slice && p.Len() == 0 && q.Len() == 0 {
			continue
		}
		if !reflect.DeepEqual(p.Interface(), q.Interface()) {
			return false
		}
	}
	return true
}

// same tells whether a and b are the same, function by function.
func same(a, b api.Program) bool {
	if len(a.Funcs) != len(b.Funcs) {
		return false
	}
	for k := range a.Funcs {
		if !sameFunc(a.Funcs[k], b.Funcs[k]) {
			return false
		}
	}
	return true
}

// clone tells p in memory of its own.
func clone(p api.Program) api.Program {
	return roomy(p, 0)
}

// roomy tells p in memory of its own, with room for n more behind each list, in which other things lie.
func roomy(p api.Program, n int) api.Program {
	p.Funcs = behind(p.Funcs, n, whole())
	all := p.Funcs[:cap(p.Funcs)]
	for k, f := range all {
		f.Outer, f.Params, f.Results, f.Locals = behind(f.Outer, n, 9), behind(f.Params, n, 8), behind(f.Results, n, 7), behind(f.Locals, n, 6)
		f.Code, f.Lines = behind(f.Code, n, api.Instr{Op: 99, A: 9}), behind(f.Lines, n, -99)
		f.Nodes, f.At, f.Live = behind(f.Nodes, n, api.Node{Func: -99}), behind(f.At, n, -98), behind(f.Live, n, api.Set{1, 2, 3, 4})
		all[k] = f
	}
	return p
}

func behind[T any](l []T, n int, v T) []T {
	all := make([]T, len(l)+n)
	copy(all, l)
	for k := range n {
		all[len(l)+k] = v
	}
	return all[: len(l) : len(l)+n]
}

// entire tells p, its lists up to the end of their rooms, in a list of functions of its own.
func entire(p api.Program) api.Program {
	p.Funcs = slices.Clone(p.Funcs[:cap(p.Funcs)])
	for k, f := range p.Funcs {
		f.Outer, f.Params, f.Results, f.Locals = f.Outer[:cap(f.Outer)], f.Params[:cap(f.Params)], f.Results[:cap(f.Results)], f.Locals[:cap(f.Locals)]
		f.Code, f.Lines = f.Code[:cap(f.Code)], f.Lines[:cap(f.Lines)]
		f.Nodes, f.At, f.Live = f.Nodes[:cap(f.Nodes)], f.At[:cap(f.At)], f.Live[:cap(f.Live)]
		p.Funcs[k] = f
	}
	return p
}

// fill writes v over all of l, and over its room.
func fill[T any](l []T, v T) {
	l = l[:cap(l)]
	for k := range l {
		l[k] = v
	}
}

// list is one of a function's lists: what writes over it and its room, and what takes it out.
type list struct {
	name string
	over func(f api.Func)
	drop func(f *api.Func)
}

// lists tells all lists that a function has.
func lists() []list {
	return []list{
		{"Outer", func(f api.Func) { fill(f.Outer, 77) }, func(f *api.Func) { f.Outer = nil }},
		{"Params", func(f api.Func) { fill(f.Params, 78) }, func(f *api.Func) { f.Params = nil }},
		{"Results", func(f api.Func) { fill(f.Results, 79) }, func(f *api.Func) { f.Results = nil }},
		{"Locals", func(f api.Func) { fill(f.Locals, 80) }, func(f *api.Func) { f.Locals = nil }},
		{"Code", func(f api.Func) { fill(f.Code, api.Instr{Op: 81, A: 82}) }, func(f *api.Func) { f.Code = nil }},
		{"Lines", func(f api.Func) { fill(f.Lines, 83) }, func(f *api.Func) { f.Lines = nil }},
		{"Nodes", func(f api.Func) { fill(f.Nodes, api.Node{Parent: 84, To: 85}) }, func(f *api.Func) { f.Nodes = nil }},
		{"At", func(f api.Func) { fill(f.At, 86) }, func(f *api.Func) { f.At = nil }},
		{"Live", func(f api.Func) { fill(f.Live, api.Set{87, 88, 89, 90}) }, func(f *api.Func) { f.Live = nil }},
	}
}

// over writes over all of p that a caller may come to: each function's lists, and the list of functions, with their rooms.
func over(p api.Program) {
	for _, f := range p.Funcs {
		for _, x := range lists() {
			x.over(f)
		}
	}
	fill(p.Funcs, api.Func{Name: "over", Lines: []int{91}})
}

// show tells as much of p as may be shown.
func show(p api.Program) string {
	return fmt.Sprintf("%d functions, %.300s", len(p.Funcs), fmt.Sprintf("%+v", p))
}

// holds holds a program against what it should be.
func holds(t *testing.T, what string, got, want api.Program) {
	t.Helper()
	if !same(got, want) {
		t.Errorf("%s: %s, want %s", what, show(got), show(want))
	}
}

// alone holds that an answer's lists share no memory with one another: writing over one of them leaves the others.
func alone(t *testing.T, what string, answer func() api.Program) {
	t.Helper()
	for k := range min(len(answer().Funcs), 7) {
		for _, x := range lists() {
			p := answer()
			want := clone(p)
			x.over(p.Funcs[k])
			x.drop(&p.Funcs[k])
			x.drop(&want.Funcs[k])
			holds(t, fmt.Sprintf("%s: beside %s of function %d", what, x.name, k), p, want)
		}
	}
	p := answer()
	l := slices.Clone(p.Funcs)
	want := clone(of(l...))
	fill(p.Funcs, api.Func{Name: "over"})
	holds(t, what+": beside the list of functions", of(l...), want)
}

func TestTheTestsPrograms(t *testing.T) {
	for name, p := range rights() {
		if err := can(p); err != api.OK {
			t.Errorf("%s: %s can't be laid, error %d", name, show(p), err)
		}
	}
	for name, p := range wrongs() {
		if can(p) == api.OK {
			t.Errorf("%s: %s can be laid", name, show(p))
		}
	}
	for _, x := range faults() {
		for k := range 6 {
			f := kind(k)
			x.make(&f)
			if err := fnc.Can(f); err != x.err {
				t.Errorf("%s of kind %d: error %d, want %d", x.name, k, err, x.err)
			}
		}
	}
}

// unsame holds that two programs are told not to be the same, from either side.
func unsame(t *testing.T, what string, a, b api.Program) {
	t.Helper()
	if file.Same(a, b) || file.Same(b, a) {
		t.Errorf("%s: Same: true", what)
	}
}

func TestSameOfItself(t *testing.T) { // P16.1: also of such as can't be laid
	for _, l := range []map[string]api.Program{rights(), wrongs()} {
		for name, p := range l {
			if !file.Same(p, p) || !file.Same(p, clone(p)) || !file.Same(clone(p), p) {
				t.Errorf("%s: Same of it and itself: false", name)
			}
			unsame(t, name+", and one function more", p, of(grown(p.Funcs, plain())...))
			unsame(t, name+", and a zero one more", p, of(grown(p.Funcs, api.Func{})...))
			if len(p.Funcs) > 0 {
				unsame(t, name+", and one function fewer", p, of(p.Funcs[1:]...))
				unsame(t, name+", and the last one fewer", p, of(p.Funcs[:len(p.Funcs)-1]...))
				unsame(t, name+", and none", p, api.Program{})
			}
		}
	}
}

func TestSameOfNoFunctions(t *testing.T) { // P16.1: on either side and on both; an empty list is as none
	room := roomy(of(row(3)...), 2)
	none := []api.Program{{}, of([]api.Func{}...), {Funcs: make([]api.Func, 0, 5)}, {Funcs: room.Funcs[:0]}, {Funcs: room.Funcs[3:]}}
	for k, a := range none {
		for j, b := range none {
			if !file.Same(a, b) {
				t.Errorf("Same of none, %d and %d: false", k, j)
			}
		}
		unsame(t, "none and a zero one", a, of(api.Func{}))
		unsame(t, "none and one", a, of(plain()))
		unsame(t, "none and some", a, of(row(3)...))
	}
}

func TestSameOfAnotherOrder(t *testing.T) { // P16.1
	for _, n := range []int{2, 3, 7, 40} {
		for _, x := range [][2]int{{0, 1}, {0, n - 1}, {n - 2, n - 1}, {n / 2, n - 1}} {
			l := row(n)
			l[x[0]], l[x[1]] = l[x[1]], l[x[0]]
			if want := x[0] == x[1]; file.Same(of(row(n)...), of(l...)) != want {
				t.Errorf("of %d functions %v swapped: Same: %t", n, x, !want)
			}
		}
		l := row(n)
		slices.Reverse(l)
		unsame(t, "backward", of(row(n)...), of(l...))
	}
	twice := of(plain(), plain(), named(plain(), "g"))
	unsame(t, "as many, of which another one stands twice", twice, of(plain(), named(plain(), "g"), named(plain(), "g")))
	if !file.Same(twice, clone(twice)) {
		t.Errorf("Same of a program with a name twice and itself: false")
	}
}

// changes tells what makes of whole a function that differs from it in just one thing.
func changes() map[string]func(f *api.Func) {
	l := map[string]func(f *api.Func){
		"Name":       func(f *api.Func) { f.Name = "step_3" },
		"Inner":      func(f *api.Func) { f.Inner = false },
		"Outer":      func(f *api.Func) { f.Outer[1] = api.Int },
		"Params":     func(f *api.Func) { f.Params[0] = api.Int },
		"Results":    func(f *api.Func) { f.Results[0] = api.Cx },
		"Locals":     func(f *api.Func) { f.Locals[1] = api.Int },
		"an Op":      func(f *api.Func) { f.Code[1].Op = api.Load },
		"an A":       func(f *api.Func) { f.Code[0].A = 3 },
		"Lines":      func(f *api.Func) { f.Lines[5] = 8 },
		"a Func":     func(f *api.Func) { f.Nodes[1].Func = 38 },
		"a Resume":   func(f *api.Func) { f.Nodes[1].Resume = 4 },
		"At":         func(f *api.Func) { f.At[5] = 1 },
		"Live":       func(f *api.Func) { f.Live[5][3] = 1 },
		"no tables":  func(f *api.Func) { *f = bare(*f) },
		"a line":     func(f *api.Func) { f.Lines = grown(f.Lines, 0) },
		"everything": func(f *api.Func) { *f = api.Func{} },
	}
	for _, x := range lists() {
		l["no "+x.name] = x.drop
	}
	return l
}

func TestSameOfOneChange(t *testing.T) { // P16.1: at the first, a middle and the last place
	for name, change := range changes() {
		for _, n := range []int{1, 2, 7, 40} {
			for _, at := range []int{0, n / 2, n - 1} {
				a, b := of(row(n)...), of(row(n)...)
				a.Funcs[at], b.Funcs[at] = whole(), whole()
				if !file.Same(a, b) {
					t.Errorf("whole at %d of %d: Same: false", at, n)
				}
				change(&b.Funcs[at])
				unsame(t, fmt.Sprintf("%s at %d of %d", name, at, n), a, b)
			}
		}
	}
}

func TestSameOfEmptyLists(t *testing.T) { // P16.1: an empty list is as none
	empty := plain()
	empty.Outer, empty.Params, empty.Results, empty.Locals = types{}, types{}, types{}, types{}
	empty.Nodes, empty.At, empty.Live = []api.Node{}, []int{}, []api.Set{}
	a, b := of(whole(), plain(), whole()), of(whole(), empty, whole())
	if !file.Same(a, b) || !file.Same(b, a) {
		t.Errorf("Same, no lists and empty ones: false")
	}
}

func TestSameAsksNothingBehindTheEnd(t *testing.T) { // P16.1
	a, b := roomy(of(row(7)...), 3), roomy(of(row(7)...), 5)
	fill(b.Funcs[7:], api.Func{Name: "other"})
	if !file.Same(a, b) {
		t.Errorf("Same of two with other things behind their ends: false")
	}
}

func TestCopyTellsTheSame(t *testing.T) { // P16.1: also of such as can't be laid
	for _, l := range []map[string]api.Program{rights(), wrongs()} {
		for name, p := range l {
			was := clone(p)
			holds(t, name+": Copy", file.Copy(p), was)
			holds(t, name+": behind Copy", p, was)
		}
	}
	holds(t, "Copy of none", file.Copy(api.Program{}), api.Program{})
}

func TestCopyTellsNewMemory(t *testing.T) { // P16.1, R3
	l := rights()
	for name, p := range wrongs() {
		if len(p.Funcs) < 50 {
			l[name] = p
		}
	}
	for name, p := range l {
		for _, room := range []int{0, 3} {
			p := roomy(p, room)
			was := clone(entire(p))
			alone(t, name+": Copy", func() api.Program { return file.Copy(p) })
			over(file.Copy(p))
			holds(t, name+": what was copied, behind a change of the copy", entire(p), was)

			got, later := file.Copy(p), file.Copy(p)
			want := clone(got)
			over(p)
			holds(t, name+": the copy, behind a change of what was copied", got, want)
			over(got)
			holds(t, name+": another copy", later, want)
		}
	}
}

func TestCopyOfNoneSharesNoRoom(t *testing.T) { // P16.1, R3
	p := roomy(of(row(3)...), 2)
	was := clone(entire(p))
	got := file.Copy(of(p.Funcs[:0]...))
	holds(t, "Copy", got, api.Program{})
	_ = append(got.Funcs, api.Func{Name: "over"})
	over(got)
	holds(t, "what was copied", entire(p), was)
}

func TestNothingIsChanged(t *testing.T) { // R3: neither the functions, nor what lies behind their lists' ends
	other := of(row(7)...)
	for _, l := range []map[string]api.Program{rights(), wrongs()} {
		for name, p := range l {
			if len(p.Funcs) > 1000 {
				continue
			}
			p := roomy(p, 3)
			was := clone(entire(p))
			file.Can(p)
			file.Copy(p)
			file.Same(p, other)
			file.Same(other, p)
			file.Same(p, p)
			file.Encode(p)
			holds(t, name, entire(p), was)
		}
	}
	holds(t, "another one", other, of(row(7)...))
}

func TestTheSameEachTime(t *testing.T) { // R4: also behind calls that failed
	type answers struct {
		can, err, back api.Errno
		same, like     bool
		b              string
	}
	ask := func(p api.Program) (answers, api.Program, api.Program) {
		b, err := file.Encode(p)
		q, back := file.Decode(b)
		return answers{file.Can(p), err, back, file.Same(p, of(row(7)...)), file.Same(p, clone(p)), string(b)}, file.Copy(p), q
	}
	for _, l := range []map[string]api.Program{rights(), wrongs()} {
		for name, p := range l {
			first, copied, read := ask(p)
			ask(of(row(7)...))
			ask(api.Program{})
			ask(of(api.Func{}))
			ask(called("a", "a"))
			second, copiedThen, readThen := ask(roomy(p, 2)) // it hangs on no address, and on no capacity
			if first != second {
				t.Errorf("%s: %.300v, and then %.300v", name, first, second)
			}
			holds(t, name+": Copy", copiedThen, copied)
			holds(t, name+": Decode", readThen, read)
		}
	}
}

func TestManyAtOnce(t *testing.T) { // R4
	p := of(row(7)...)
	want, _ := file.Encode(p)
	done := make(chan bool)
	for n := range 8 {
		go func() {
			ok := true
			for range 100 {
				if n%2 == 0 {
					_, short := file.Decode(want[:len(want)-1])
					ok = ok && short == api.ErrShort && file.Can(of(make([]api.Func, 2)...)) == api.ErrName
					continue
				}
				q, err := file.Decode(want)
				b, _ := file.Encode(p)
				ok = ok && err == api.OK && file.Same(file.Copy(q), p) && file.Can(p) == api.OK && string(b) == string(want)
			}
			done <- ok
		}()
	}
	for range 8 {
		if !<-done {
			t.Errorf("other answers, if many ask at once")
		}
	}
}
