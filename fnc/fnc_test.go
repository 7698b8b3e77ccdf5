package fnc_test

import (
	"fmt"
	"math"
	"reflect"
	"regexp"
	"slices"
	"strings"
	"testing"

	"inlay/api"
	"inlay/cursor"
	"inlay/fnc"
	"inlay/instr"
	"inlay/tree"
)

const (
	least    = math.MinInt
	greatest = math.MaxInt
)

type types = []api.Type

// set tells the set of numbers from 0 to 255.
func set(l ...int) api.Set {
	var s api.Set
	for _, n := range l {
		s[n/64] |= 1 << (n % 64)
	}
	return s
}

// times tells n things alike.
func times[T any](n int, v T) []T {
	return slices.Repeat([]T{v}, n)
}

// with tells l with v at a place, if there is that place.
func with[T any](l []T, at int, v T) []T {
	l = slices.Clone(l)
	if at >= 0 && at < len(l) {
		l[at] = v
	}
	return l
}

// cut tells l without its last one.
func cut[T any](l []T) []T {
	return slices.Clone(l[:max(len(l)-1, 0)])
}

// grown tells l with v behind it, in memory of its own.
func grown[T any](l []T, v T) []T {
	return append(slices.Clone(l), v)
}

// plain tells a function with as little as may be.
func plain() api.Func {
	return api.Func{Name: "f", Code: []api.Instr{{Op: api.Ret}}, Lines: []int{1}}
}

// whole tells a function that has some of everything: six slots, two nodes.
func whole() api.Func {
	return api.Func{
		Name: "step_2", Inner: true, Outer: types{api.Int, api.Cx},
		Params: types{api.Cx, api.Int, api.Int}, Results: types{api.Int}, Locals: types{api.Cx, api.Cx},
		Code:  []api.Instr{{Op: api.Push, A: -3}, {Op: api.Store, A: 3}, {Op: api.Open, A: 1}, {Op: api.Load, A: 1}, {Op: api.Close, A: 1}, {Op: api.Ret}},
		Lines: []int{7, 7, 9, 65535, 0, 9},
		Nodes: []api.Node{{Parent: -1, To: 3}, {Func: 39, Line: 7, From: 3, Args: 1, To: 6, Resume: 5}},
		At:    []int{0, 0, 1, 1, 1, 0},
		Live:  []api.Set{{}, set(0), set(0, 5), set(0, 5), set(1), set(1)},
	}
}

// wholeBytes tells what the chapters say that whole is laid as.
func wholeBytes() []byte {
	return []byte{
		6, 's', 't', 'e', 'p', '_', '2', 3,
		2, 1, 2, 3, 2, 1, 1, 1, 1, 2, 2, 2,
		6, 1, 5, 3, 6, 33, 2, 2, 2, 34, 2, 25,
		2, 14, 1, 18, 1, 254, 255, 7, 1, 0, 1, 18,
		2, 1, 0, 0, 0, 0, 6, 0, 0, 78, 14, 6, 2, 12, 10,
		2, 0, 3, 2, 1, 0,
		1, 0, 0, 0, 0, 1, 1, 0, 0, 0, 2, 33, 0, 0, 0, 2, 2, 0, 0, 0,
	}
}

// bare tells f without tables, tabled f with tables of one node and no slots, if it has none.
func bare(f api.Func) api.Func {
	f.Nodes, f.At, f.Live = nil, nil, nil
	return f
}

func tabled(f api.Func) api.Func {
	if len(f.Nodes)+len(f.At)+len(f.Live) == 0 {
		f.Nodes, f.At, f.Live = []api.Node{{Parent: -1}}, make([]int, len(f.Code)), make([]api.Set, len(f.Code))
	}
	return f
}

// coded tells f with n instructions, and all else that there must be as many of.
func coded(f api.Func, n int) api.Func {
	f.Code, f.Lines = times(n, api.Instr{Op: api.Ret}), times(n, 3)
	if len(f.Nodes) > 0 {
		f.At, f.Live = times(n, 0), times(n, api.Set{})
	}
	return f
}

// typed tells f with so many types of each kind.
func typed(f api.Func, outer, params, results, locals int) api.Func {
	l := func(n int) types {
		return slices.Repeat(types{api.Int, api.Cx, api.Cx}, n/3+1)[:n:n]
	}
	f.Outer, f.Params, f.Results, f.Locals = l(outer), l(params), l(results), l(locals)
	f.Inner = f.Inner || outer > 0
	return f
}

// chain tells n nodes, each in the one ahead.
func chain(n int) []api.Node {
	l := []api.Node{{Parent: -1, To: 2}}
	for k := 1; k < n; k++ {
		l = append(l, api.Node{Parent: k - 1, Func: k % 40, Line: k * 500, From: k + 1, Args: 1, To: k + 2, Resume: 1 + k*16})
	}
	return l
}

// dice tells numbers that look like any, the same ones each time.
type dice uint64

func (d *dice) roll(n int) int {
	*d = *d*6364136223846793005 + 1442695040888963407
	return int(*d >> 33 % dice(n))
}

// types tells at most most types, mostly few.
func (d *dice) types(most int) types {
	l := make(types, d.roll(1+min(most, 1+d.roll(most+1))))
	for k := range l {
		l[k] = api.Type(1 + d.roll(2))
	}
	return l
}

// instr tells an instruction that may be.
func (d *dice) instr() api.Instr {
	for {
		i := api.Instr{Op: api.Op(d.roll(int(api.Ops)))}
		if d.roll(2) == 0 {
			i.A = []int{1, 3, 39, 119, 255, 1999, -1, least, greatest, 70}[d.roll(10)]
		}
		if instr.Right(i) {
			return i
		}
	}
}

// function tells a function that can be laid.
func (d *dice) function() api.Func {
	f := api.Func{Name: "abz_0959klmn"[d.roll(3):][:1+d.roll(9)], Inner: d.roll(2) == 0}
	if f.Inner {
		f.Outer = d.types(4)
	}
	f.Params, f.Results, f.Locals = d.types(8), d.types(4), d.types(244)
	slots := len(f.Params) + len(f.Results) + len(f.Locals)
	if d.roll(2) == 0 {
		f.Nodes = chain(1 + d.roll(1+d.roll(120)))
	}
	often := 1 + d.roll(4)
	for range 1 + d.roll(1+d.roll(300)) {
		f.Code = append(f.Code, d.instr())
		if k := len(f.Lines) - 1; k >= 0 && d.roll(often) > 0 {
			f.Lines = append(f.Lines, f.Lines[k])
		} else {
			f.Lines = append(f.Lines, d.roll(1<<(1+d.roll(16))))
		}
		if len(f.Nodes) > 0 {
			s := api.Set{}
			if slots > 0 {
				s = set(d.roll(slots), d.roll(1+d.roll(slots)))
			}
			if k := len(f.Live) - 1; k >= 0 && d.roll(often) > 0 {
				s = f.Live[k]
			}
			f.Live = append(f.Live, s)
			f.At = append(f.At, d.roll(len(f.Nodes)))
		}
	}
	return f
}

// every tells instructions, one of each Op.
func every() []api.Instr {
	var l []api.Instr
	for op := range api.Ops {
		l = append(l, api.Instr{Op: op})
	}
	return l
}

// few tells functions that can be laid, one of each kind.
func few() map[string]api.Func {
	inner, outer := plain(), plain()
	inner.Inner = true
	outer.Inner, outer.Outer = true, types{api.Cx}
	return map[string]api.Func{
		"plain":                    plain(),
		"Inner":                    inner,
		"Outer":                    outer,
		"tables":                   tabled(plain()),
		"Inner and tables":         tabled(inner),
		"Outer and tables":         tabled(outer),
		"whole":                    whole(),
		"whole, no tables":         bare(whole()),
		"types of each kind":       typed(plain(), 0, 3, 2, 5),
		"types of each kind, four": typed(inner, 4, 8, 4, 10),
	}
}

// many tells functions that can be laid: those of few, such as are just on the right side of a limit, and any.
func many() map[string]api.Func {
	l := few()
	for _, x := range [][4]int{
		{1, 0, 0, 0}, {4, 0, 0, 0}, {0, 8, 0, 0}, {0, 1, 0, 0}, {0, 0, 1, 0}, {0, 0, 4, 0}, {0, 0, 0, 1}, {0, 0, 0, 127}, {0, 0, 0, 128}, {0, 0, 0, 255}, {0, 0, 0, 256},
		{4, 8, 4, 244}, {0, 8, 4, 243}, {0, 8, 0, 248}, {0, 8, 0, 247}, {0, 0, 4, 252}, {0, 0, 4, 251}, {0, 1, 0, 255}, {0, 0, 1, 255}, {4, 0, 0, 256}, {0, 1, 1, 254}, {2, 5, 3, 248},
	} {
		l[fmt.Sprint("types ", x)] = typed(plain(), x[0], x[1], x[2], x[3])
		l[fmt.Sprint("types and tables ", x)] = typed(tabled(plain()), x[0], x[1], x[2], x[3])
	}
	for _, n := range []int{2, 3, 126, 127, 128, 129, 1999, 2000} {
		l[fmt.Sprint("instructions ", n)] = coded(plain(), n)
		l[fmt.Sprint("instructions and tables ", n)] = coded(whole(), n)
	}
	for _, s := range []string{"a", "z", "main", "a0", "z9", "a_", "abcdefghijkl", "z__________9"} {
		f := plain()
		f.Name = s
		l["name "+s] = f
	}
	f := coded(typed(tabled(plain()), 0, 0, 0, 256), 2000)
	f.Nodes = chain(120)
	for k := range f.At {
		f.At[k], f.Live[k], f.Lines[k] = k%120, set(k%256, k%7), k*31
	}
	l["great"] = f
	f = plain()
	f.Code, f.Lines = every(), times(int(api.Ops), 65535)
	l["each Op"] = f
	d := dice(15)
	for k := range 150 {
		l[fmt.Sprint("any ", k)] = d.function()
	}
	return l
}

// fault is what makes of each function that can be laid one that can't, for that reason.
type fault struct {
	name string
	err  api.Errno
	make func(f *api.Func)
}

// wrongTypes tells types that are none: also such as look like one in fewer bits.
func wrongTypes() types {
	return types{0, 3, -1, 4, 255, 256, 257, 258, 1<<32 + 1, 1<<32 + 2, least, least + 1, greatest}
}

// kinds tells of each list of types where it is, and how many there may be.
func kinds() []struct {
	name string
	most int
	of   func(f *api.Func) *types
} {
	return []struct {
		name string
		most int
		of   func(f *api.Func) *types
	}{
		{"Outer", 4, func(f *api.Func) *types { f.Inner = true; return &f.Outer }},
		{"Results", 4, func(f *api.Func) *types { return &f.Results }},
		{"Params", 8, func(f *api.Func) *types { return &f.Params }},
		{"Locals", 256, func(f *api.Func) *types { return &f.Locals }},
	}
}

// faults tells faults of all kinds, in the order in which the chapter names them.
func faults() []fault {
	var l []fault
	add := func(name string, err api.Errno, make func(f *api.Func)) {
		l = append(l, fault{name, err, make})
	}
	for _, s := range []string{"", "A", "0a", "_a", "a-", "a b", "é", "a\x00", "abcdefghijklm", strings.Repeat("a", 300)} {
		add(fmt.Sprintf("name %.20q", s), api.ErrName, func(f *api.Func) { f.Name = s })
	}
	for _, x := range kinds() {
		add(x.name+", more", api.ErrType, func(f *api.Func) { *x.of(f) = times(x.most+1, api.Int) })
		add(x.name+", one that is none", api.ErrType, func(f *api.Func) { *x.of(f) = types{api.Cx, 3} })
	}
	add("Outer, not Inner", api.ErrType, func(f *api.Func) { f.Inner, f.Outer = false, types{api.Int} })
	add("Outer of four, not Inner", api.ErrType, func(f *api.Func) { f.Inner, f.Outer = false, times(4, api.Cx) })

	add("257 slots", api.ErrMany, func(f *api.Func) { *f = typed(*f, 0, 8, 4, 245) })
	add("257 slots, no results", api.ErrMany, func(f *api.Func) { *f = typed(*f, 0, 1, 0, 256) })
	add("257 slots, no params", api.ErrMany, func(f *api.Func) { *f = typed(*f, 0, 0, 1, 256) })
	add("no instruction", api.ErrMany, func(f *api.Func) { f.Code = nil })
	add("no instruction, and no lines", api.ErrMany, func(f *api.Func) { *f = coded(*f, 0) })
	add("2001 instructions", api.ErrMany, func(f *api.Func) { *f = coded(*f, 2001) })

	for _, i := range []api.Instr{{Op: api.Ops}, {Op: -1}, {Op: api.Ret, A: 1}, {Op: api.Load, A: 256}, {Op: api.Jump, A: 2000}, {Op: 256 + api.Ret}} {
		add(fmt.Sprint("first instruction ", i), api.ErrOp, func(f *api.Func) { f.Code = with(f.Code, 0, i) })
		add(fmt.Sprint("last instruction ", i), api.ErrOp, func(f *api.Func) { f.Code = with(f.Code, len(f.Code)-1, i) })
	}

	add("one line fewer", api.ErrLine, func(f *api.Func) { f.Lines = cut(f.Lines) })
	add("one line more", api.ErrLine, func(f *api.Func) { f.Lines = grown(f.Lines, 3) })
	add("first line -1", api.ErrLine, func(f *api.Func) { f.Lines = with(f.Lines, 0, -1) })
	add("last line 65536", api.ErrLine, func(f *api.Func) { f.Lines = with(f.Lines, len(f.Lines)-1, 65536) })

	table := func(name string, make func(f *api.Func)) {
		add(name, api.ErrTable, func(f *api.Func) { *f = tabled(*f); make(f) })
	}
	table("no tree", func(f *api.Func) { f.Nodes = nil })
	table("no At", func(f *api.Func) { f.At = nil })
	table("no Live", func(f *api.Func) { f.Live = nil })
	table("Nodes alone", func(f *api.Func) { f.At, f.Live = nil, nil })
	table("At alone", func(f *api.Func) { f.Nodes, f.Live = nil, nil })
	table("Live alone", func(f *api.Func) { f.Nodes, f.At = nil, nil })
	table("first node in 0", func(f *api.Func) { f.Nodes = with(f.Nodes, 0, api.Node{}) })
	table("a node in itself", func(f *api.Func) {
		f.Nodes = grown(f.Nodes, api.Node{Parent: len(f.Nodes), From: 200, To: 200, Resume: 1})
	})
	table("121 nodes", func(f *api.Func) { f.Nodes = chain(121) })
	table("one of At fewer", func(f *api.Func) { f.At = cut(f.At) })
	table("one of At more", func(f *api.Func) { f.At = grown(f.At, 0) })
	table("one of Live fewer", func(f *api.Func) { f.Live = cut(f.Live) })
	table("one of Live more", func(f *api.Func) { f.Live = grown(f.Live, api.Set{}) })
	table("first of At -1", func(f *api.Func) { f.At = with(f.At, 0, -1) })
	table("last of At beyond", func(f *api.Func) { f.At = with(f.At, len(f.At)-1, len(f.Nodes)) })
	table("a slot beyond", func(f *api.Func) {
		*f = typed(*f, 0, min(len(f.Params), 8), min(len(f.Results), 4), min(len(f.Locals), 243)) // so that there is one beyond
		f.Live = with(f.Live, len(f.Live)-1, set(slotsOf(*f)))
	})
	return l
}

// slotsOf tells how many slots f has.
func slotsOf(f api.Func) int { return len(f.Params) + len(f.Results) + len(f.Locals) }

// wrongs tells functions that can't be laid: of each fault one of each kind.
func wrongs() map[string]api.Func {
	l := map[string]api.Func{}
	for name, f := range few() {
		for _, x := range faults() {
			g := f
			x.make(&g)
			l[name+": "+x.name] = g
		}
	}
	l["the zero one"] = api.Func{}
	l["numbers at their ends"] = api.Func{
		Name: strings.Repeat("\xff", 1000), Outer: types{least, greatest}, Params: wrongTypes(), Results: times(1000, api.Type(least)), Locals: times(5000, api.Type(7)),
		Code: []api.Instr{{Op: api.Op(least), A: greatest}, {Op: api.Op(greatest), A: least}}, Lines: []int{least, greatest, -1},
		Nodes: []api.Node{{Parent: least, Func: greatest, From: greatest, Args: greatest, To: greatest, Resume: least}, {}}, At: []int{least, greatest}, Live: []api.Set{{math.MaxUint64, 1, 2, math.MaxUint64}},
	}
	l["far too much"] = api.Func{
		Name: "f", Code: make([]api.Instr, 300000), Lines: make([]int, 300000), At: make([]int, 300000), Live: make([]api.Set, 300000), Nodes: make([]api.Node, 300000),
	}
	return l
}

var named = regexp.MustCompile(`^[a-z][a-z0-9_]{0,11}$`)

// can tells what the chapter says that Can tells.
func can(f api.Func) api.Errno {
	wrong := func(l types, most int) bool {
		return len(l) > most || slices.ContainsFunc(l, func(t api.Type) bool { return t != 1 && t != 2 })
	}
	n, slots := len(f.Code), slotsOf(f)
	if !named.MatchString(f.Name) {
		return api.ErrName
	}
	if wrong(f.Outer, 4) || wrong(f.Results, 4) || wrong(f.Params, 8) || wrong(f.Locals, 256) || len(f.Outer) > 0 && !f.Inner {
		return api.ErrType
	}
	if slots > 256 || n == 0 || n > 2000 {
		return api.ErrMany
	}
	for _, i := range f.Code {
		if !instr.Right(i) {
			return api.ErrOp
		}
	}
	if len(f.Lines) != n {
		return api.ErrLine
	}
	for _, line := range f.Lines {
		if line < 0 || line > 65535 {
			return api.ErrLine
		}
	}
	if len(f.Nodes)+len(f.At)+len(f.Live) == 0 {
		return api.OK
	}
	if !tree.Right(f.Nodes) || len(f.At) != n || len(f.Live) != n {
		return api.ErrTable
	}
	for k := range n {
		if f.At[k] < 0 || f.At[k] >= len(f.Nodes) {
			return api.ErrTable
		}
		for slot := range 256 {
			if slot >= slots && f.Live[k][slot/64]>>(slot%64)&1 == 1 {
				return api.ErrTable
			}
		}
	}
	return api.OK
}

// same tells whether a and b are the same in each field that there is, an empty list being as none.
func same(a, b api.Func) bool {
	x, y := reflect.ValueOf(a), reflect.ValueOf(b)
	for k := range x.NumField() {
		p, q := x.Field(k), y.Field(k)
		if p.Kind() == reflect.Slice && p.Len() == 0 && q.Len() == 0 {
			continue
		}
		if !reflect.DeepEqual(p.Interface(), q.Interface()) {
			return false
		}
	}
	return true
}

// clone tells f in memory of its own.
func clone(f api.Func) api.Func {
	return roomy(f, 0)
}

// roomy tells f in memory of its own, with room for n more behind each list, in which other things lie.
func roomy(f api.Func, n int) api.Func {
	f.Outer, f.Params, f.Results, f.Locals = behind(f.Outer, n, 9), behind(f.Params, n, 8), behind(f.Results, n, 7), behind(f.Locals, n, 6)
	f.Code, f.Lines = behind(f.Code, n, api.Instr{Op: 99, A: 9}), behind(f.Lines, n, -99)
	f.Nodes, f.At, f.Live = behind(f.Nodes, n, api.Node{Func: -99}), behind(f.At, n, -98), behind(f.Live, n, api.Set{1, 2, 3, 4})
	return f
}

func behind[T any](l []T, n int, v T) []T {
	all := make([]T, len(l)+n)
	copy(all, l)
	for k := range n {
		all[len(l)+k] = v
	}
	return all[:len(l)]
}

// entire tells f, its lists up to the end of their rooms.
func entire(f api.Func) api.Func {
	f.Outer, f.Params, f.Results, f.Locals = f.Outer[:cap(f.Outer)], f.Params[:cap(f.Params)], f.Results[:cap(f.Results)], f.Locals[:cap(f.Locals)]
	f.Code, f.Lines = f.Code[:cap(f.Code)], f.Lines[:cap(f.Lines)]
	f.Nodes, f.At, f.Live = f.Nodes[:cap(f.Nodes)], f.At[:cap(f.At)], f.Live[:cap(f.Live)]
	return f
}

// fill writes v over all of l.
func fill[T any](l []T, v T) {
	for k := range l {
		l[k] = v
	}
}

// list is one of a function's lists: what writes over it, and what takes it out.
type list struct {
	name string
	over func(f api.Func)
	drop func(f *api.Func)
}

// lists tells all lists that a function has.
func lists() []list {
	return []list{
		{"Outer", func(f api.Func) { fill(f.Outer, 77) }, func(f *api.Func) { f.Outer = nil }},
		{"Params", func(f api.Func) { fill(f.Params, 78) }, func(f *api.Func) { f.Params = nil }},
		{"Results", func(f api.Func) { fill(f.Results, 79) }, func(f *api.Func) { f.Results = nil }},
		{"Locals", func(f api.Func) { fill(f.Locals, 80) }, func(f *api.Func) { f.Locals = nil }},
		{"Code", func(f api.Func) { fill(f.Code, api.Instr{Op: 81, A: 82}) }, func(f *api.Func) { f.Code = nil }},
		{"Lines", func(f api.Func) { fill(f.Lines, 83) }, func(f *api.Func) { f.Lines = nil }},
		{"Nodes", func(f api.Func) { fill(f.Nodes, api.Node{Parent: 84, To: 85}) }, func(f *api.Func) { f.Nodes = nil }},
		{"At", func(f api.Func) { fill(f.At, 86) }, func(f *api.Func) { f.At = nil }},
		{"Live", func(f api.Func) { fill(f.Live, api.Set{87, 88, 89, 90}) }, func(f *api.Func) { f.Live = nil }},
	}
}

// show tells as much of f as may be shown.
func show(f api.Func) string {
	return fmt.Sprintf("%.400s", fmt.Sprintf("%+v", f))
}

// holds holds a function against what it should be.
func holds(t *testing.T, what string, got, want api.Func) {
	t.Helper()
	if !same(got, want) {
		t.Errorf("%s: %s, want %s", what, show(got), show(want))
	}
}

// alone holds that an answer's lists share no memory with one another: writing over one of them, its room too, leaves the others.
func alone(t *testing.T, what string, answer func() api.Func) {
	t.Helper()
	for _, x := range lists() {
		f := answer()
		want := clone(f)
		x.over(entire(f))
		x.drop(&f)
		x.drop(&want)
		holds(t, what+": beside "+x.name, f, want)
	}
}

func TestTheTestsFunctions(t *testing.T) {
	for name, f := range many() {
		if err := can(f); err != api.OK {
			t.Errorf("%s: %s can't be laid, error %d", name, show(f), err)
		}
	}
	for name, f := range wrongs() {
		if can(f) == api.OK {
			t.Errorf("%s: %s can be laid", name, show(f))
		}
	}
}

func TestBare(t *testing.T) { // P15.1
	node, at, live := []api.Node{{Parent: -1}}, []int{0}, []api.Set{{}}
	for name, x := range map[string]struct {
		f    api.Func
		want bool
	}{
		"the zero one":        {api.Func{}, true},
		"plain":               {plain(), true},
		"whole":               {whole(), false},
		"whole, no tables":    {bare(whole()), true},
		"empty lists":         {api.Func{Nodes: node[:0], At: at[:0], Live: live[:0]}, true},
		"empty lists, named":  {api.Func{Nodes: []api.Node{}, At: []int{}, Live: []api.Set{}}, true},
		"Nodes alone":         {api.Func{Nodes: node}, false},
		"At alone":            {api.Func{At: at}, false},
		"Live alone":          {api.Func{Live: live}, false},
		"Nodes, others empty": {api.Func{Nodes: node, At: at[:0], Live: live[:0]}, false},
		"At, others empty":    {api.Func{Nodes: node[:0], At: at, Live: live[:0]}, false},
		"Live, others empty":  {api.Func{Nodes: node[:0], At: at[:0], Live: live}, false},
		"no Nodes":            {api.Func{At: at, Live: live}, false},
		"no At":               {api.Func{Nodes: node, Live: live}, false},
		"no Live":             {api.Func{Nodes: node, At: at}, false},
		"a node that is none": {api.Func{Nodes: []api.Node{{}}}, false},
		"At of no node":       {api.Func{At: []int{-1}}, false},
		"two sets":            {api.Func{Live: []api.Set{{}, {}}}, false},
		"all but tables":      {api.Func{Name: "f", Inner: true, Outer: types{1}, Params: types{1}, Results: types{1}, Locals: types{1}, Code: every(), Lines: []int{1}}, true},
	} {
		if got := fnc.Bare(x.f); got != x.want {
			t.Errorf("%s: Bare: %t", name, got)
		}
	}
}

func TestBareOfMany(t *testing.T) { // P15.1
	told := map[bool]int{}
	for _, l := range []map[string]api.Func{many(), wrongs()} {
		for name, f := range l {
			want := len(f.Nodes)+len(f.At)+len(f.Live) == 0
			if got := fnc.Bare(f); got != want {
				t.Errorf("%s: Bare: %t", name, got)
			}
			told[want]++
		}
	}
	if told[true] < 100 || told[false] < 100 {
		t.Errorf("Bare are %d, not so %d: too few to tell", told[true], told[false])
	}
}

// changes tells what makes of whole a function that differs from it in one thing.
func changes() map[string]func(f *api.Func) {
	l := map[string]func(f *api.Func){
		"another Name":              func(f *api.Func) { f.Name = "step_3" },
		"a shorter Name":            func(f *api.Func) { f.Name = "step_" },
		"a longer Name":             func(f *api.Func) { f.Name = "step_2a" },
		"no Name":                   func(f *api.Func) { f.Name = "" },
		"a Name of capital letters": func(f *api.Func) { f.Name = "STEP_2" },
		"not Inner":                 func(f *api.Func) { f.Inner = false },

		"first of Outer":      func(f *api.Func) { f.Outer[0] = api.Cx },
		"last of Outer":       func(f *api.Func) { f.Outer[1] = api.Int },
		"one of Outer fewer":  func(f *api.Func) { f.Outer = f.Outer[:1] },
		"one of Outer more":   func(f *api.Func) { f.Outer = grown(f.Outer, api.Int) },
		"Outer that is none":  func(f *api.Func) { f.Outer[1] += 1 << 32 },
		"first of Params":     func(f *api.Func) { f.Params[0] = api.Int },
		"middle of Params":    func(f *api.Func) { f.Params[1] = api.Cx },
		"last of Params":      func(f *api.Func) { f.Params[2] = api.Cx },
		"one of Params fewer": func(f *api.Func) { f.Params = f.Params[:2] },
		"one of Params more":  func(f *api.Func) { f.Params = grown(f.Params, api.Int) },
		"Results":             func(f *api.Func) { f.Results[0] = api.Cx },
		"one of Results more": func(f *api.Func) { f.Results = grown(f.Results, api.Int) },
		"first of Locals":     func(f *api.Func) { f.Locals[0] = api.Int },
		"last of Locals":      func(f *api.Func) { f.Locals[1] = api.Int },
		"one of Locals fewer": func(f *api.Func) { f.Locals = f.Locals[1:] },
		"one of Locals more":  func(f *api.Func) { f.Locals = grown(f.Locals, api.Cx) },
		"all slots are Locals": func(f *api.Func) {
			f.Params, f.Results, f.Locals = nil, nil, slices.Concat(f.Params, f.Results, f.Locals)
		},
		"a slot from Results to Params": func(f *api.Func) { f.Params, f.Results = grown(f.Params, f.Results[0]), nil },
		"a slot from Results to Locals": func(f *api.Func) { f.Locals, f.Results = slices.Concat(f.Results, f.Locals), nil },
		"Outer and Locals changed over": func(f *api.Func) { f.Outer, f.Locals = f.Locals, f.Outer },

		"an instruction's Op":      func(f *api.Func) { f.Code[3].Op = api.Store },
		"an instruction's A":       func(f *api.Func) { f.Code[0].A = 3 },
		"the last instruction":     func(f *api.Func) { f.Code[5].Op = api.Nop },
		"one instruction fewer":    func(f *api.Func) { f.Code = f.Code[:5] },
		"one instruction more":     func(f *api.Func) { f.Code = grown(f.Code, api.Instr{}) },
		"two instructions swapped": func(f *api.Func) { f.Code[0], f.Code[1] = f.Code[1], f.Code[0] },
		"first line":               func(f *api.Func) { f.Lines[0] = 8 },
		"last line":                func(f *api.Func) { f.Lines[5] = 8 },
		"one line fewer":           func(f *api.Func) { f.Lines = f.Lines[:5] },
		"one line more":            func(f *api.Func) { f.Lines = grown(f.Lines, 0) },
		"Lines and At swapped":     func(f *api.Func) { f.Lines, f.At = f.At, f.Lines },

		"one node fewer":    func(f *api.Func) { f.Nodes = f.Nodes[:1] },
		"one node more":     func(f *api.Func) { f.Nodes = grown(f.Nodes, api.Node{}) },
		"first node":        func(f *api.Func) { f.Nodes[0].To = 2 },
		"no tables":         func(f *api.Func) { *f = bare(*f) },
		"first of At":       func(f *api.Func) { f.At[0] = 1 },
		"last of At":        func(f *api.Func) { f.At[5] = 1 },
		"one of At fewer":   func(f *api.Func) { f.At = f.At[:5] },
		"one of At more":    func(f *api.Func) { f.At = grown(f.At, 0) },
		"first of Live":     func(f *api.Func) { f.Live[0][0] = 1 },
		"last of Live":      func(f *api.Func) { f.Live[5][3] = 1 },
		"a word of Live":    func(f *api.Func) { f.Live[2][1] = 1 },
		"another of Live":   func(f *api.Func) { f.Live[2][2] = 1 << 63 },
		"one of Live fewer": func(f *api.Func) { f.Live = f.Live[:5] },
		"one of Live more":  func(f *api.Func) { f.Live = grown(f.Live, api.Set{}) },
	}
	for k := range reflect.TypeFor[api.Node]().NumField() {
		l["a node's "+reflect.TypeFor[api.Node]().Field(k).Name] = func(f *api.Func) {
			x := reflect.ValueOf(&f.Nodes[1]).Elem().Field(k)
			x.SetInt(x.Int() + 1)
		}
	}
	for _, x := range lists() {
		l["no "+x.name] = x.drop
	}
	return l
}

func TestSameOfOneChange(t *testing.T) { // P15.1: each thing that a function has
	if !fnc.Same(whole(), whole()) {
		t.Errorf("Same of whole and itself: false")
	}
	l := changes()
	for name, change := range l {
		f := whole()
		change(&f)
		if fnc.Same(whole(), f) || fnc.Same(f, whole()) {
			t.Errorf("%s: Same: true", name)
		}
		if !fnc.Same(f, clone(f)) {
			t.Errorf("%s: Same of it and itself: false", name)
		}
		for other, change := range l {
			g := whole()
			change(&g)
			if got := fnc.Same(f, g); got != same(f, g) {
				t.Errorf("%s and %s: Same: %t", name, other, got)
			}
		}
	}
}

func TestSameOfEmptyLists(t *testing.T) { // P15.1: an empty list is as none
	empty := api.Func{Outer: types{}, Params: types{}, Results: types{}, Locals: types{}, Code: []api.Instr{}, Lines: []int{}, Nodes: []api.Node{}, At: []int{}, Live: []api.Set{}}
	room := whole()
	room.Name, room.Inner = "", false
	room.Outer, room.Params, room.Results, room.Locals = room.Outer[:0], room.Params[1:1], room.Results[:0], room.Locals[2:]
	room.Code, room.Lines, room.Nodes, room.At, room.Live = room.Code[:0], room.Lines[:0], room.Nodes[1:1], room.At[6:], room.Live[:0]
	all := []api.Func{{}, empty, room}
	for _, a := range all {
		for _, b := range all {
			if !fnc.Same(a, b) {
				t.Errorf("Same(%s, %s): false", show(a), show(b))
			}
		}
		b := a
		b.Inner = true
		if fnc.Same(a, b) || fnc.Same(b, a) {
			t.Errorf("Same of %s, one Inner: true", show(a))
		}
	}
	for _, x := range lists() { // none on one side, an empty one on the other, all else alike
		a, b := whole(), whole()
		x.drop(&a)
		x.drop(&b)
		bv := reflect.ValueOf(&b).Elem().FieldByName(x.name)
		bv.Set(reflect.MakeSlice(bv.Type(), 0, 3))
		if !fnc.Same(a, b) || !fnc.Same(b, a) {
			t.Errorf("Same, no %s and an empty one: false", x.name)
		}
		if fnc.Same(whole(), b) || fnc.Same(b, whole()) {
			t.Errorf("Same, some of %s and an empty one: true", x.name)
		}
	}
}

func TestSameOfMany(t *testing.T) { // P15.1
	var l []api.Func
	for _, f := range few() {
		l = append(l, f)
	}
	for _, f := range wrongs() {
		l = append(l, f)
	}
	for k, f := range l {
		if !fnc.Same(f, clone(f)) {
			t.Errorf("Same of %s and itself: false", show(f))
		}
		for _, g := range []api.Func{l[(k+1)%len(l)], l[(k*7+3)%len(l)], l[0], whole(), {}} {
			if got := fnc.Same(f, g); got != same(f, g) {
				t.Errorf("Same(%s, %s): %t", show(f), show(g), got)
			}
		}
	}
	for name, f := range many() {
		if !fnc.Same(f, clone(f)) || fnc.Same(f, api.Func{}) || fnc.Same(api.Func{}, f) {
			t.Errorf("%s: Same of it and itself, or of it and the zero one", name)
		}
	}
}

func TestSameAsksNothingBehindTheEnd(t *testing.T) { // P15.1
	a, b := roomy(whole(), 3), roomy(whole(), 5)
	fill(b.Lines[:cap(b.Lines)][6:], 4)
	if !fnc.Same(a, b) {
		t.Errorf("Same of two with other things behind their ends: false")
	}
}

func TestCopyTellsTheSame(t *testing.T) { // P15.1: also of such as can't be laid
	for _, l := range []map[string]api.Func{many(), wrongs()} {
		for name, f := range l {
			was := clone(f)
			holds(t, name+": Copy", fnc.Copy(f), was)
			holds(t, name+": behind Copy", f, was)
		}
	}
	holds(t, "Copy of the zero one", fnc.Copy(api.Func{}), api.Func{})
}

func TestCopyTellsNewMemory(t *testing.T) { // P15.1, R3
	l := few()
	for _, x := range faults() {
		f := whole()
		x.make(&f)
		l[x.name] = f
	}
	for name, f := range l {
		alone(t, name+": Copy", func() api.Func { return fnc.Copy(clone(f)) })
		for _, x := range lists() {
			f := roomy(f, 3)
			was := clone(entire(f))
			got := fnc.Copy(f)
			x.over(entire(got)) // the copy, and its room
			holds(t, name+": what was copied, behind a change of the copy's "+x.name, entire(f), was)

			got, later := fnc.Copy(f), fnc.Copy(f)
			want := clone(got)
			x.over(entire(f)) // what was copied
			holds(t, name+": the copy, behind a change of "+x.name, got, want)
			x.over(entire(got))
			holds(t, name+": another copy", later, want)
		}
	}
}

func TestCopyOfEmptyListsSharesNoRoom(t *testing.T) { // P15.1, R3
	f := roomy(api.Func{Name: "f"}, 4)
	was := clone(entire(f))
	got := fnc.Copy(f)
	holds(t, "Copy", got, api.Func{Name: "f"})
	_ = append(got.Outer, 5)
	_ = append(got.Code, api.Instr{Op: 5})
	for _, x := range lists() {
		x.over(entire(got))
	}
	holds(t, "what was copied", entire(f), was)
}

func TestNothingIsChanged(t *testing.T) { // R3: neither the functions, nor what lies behind their lists' ends
	for _, l := range []map[string]api.Func{many(), wrongs()} {
		for name, f := range l {
			f := roomy(f, 3)
			was := clone(entire(f))
			fnc.Bare(f)
			fnc.Can(f)
			fnc.Copy(f)
			fnc.Same(f, whole())
			fnc.Same(f, f)
			fnc.Same(f, clone(f))
			fnc.Put(nil, f)
			fnc.Put([]byte{1, 2, 3}, f)
			holds(t, name, entire(f), was)
		}
	}
}

func TestTheSameEachTime(t *testing.T) { // R4
	type answers struct {
		bare, same, like bool
		can, err         api.Errno
		put              string
	}
	ask := func(f api.Func) (answers, api.Func, api.Func) {
		b := fnc.Put([]byte{9}, f)
		c := cursor.New(b[1:])
		taken := fnc.Take(c)
		return answers{fnc.Bare(f), fnc.Same(f, whole()), fnc.Same(f, clone(f)), fnc.Can(f), c.Err(), string(b)}, fnc.Copy(f), taken
	}
	for _, l := range []map[string]api.Func{many(), wrongs()} {
		for name, f := range l {
			first, copied, taken := ask(f)
			ask(whole())
			ask(api.Func{})
			second, copiedThen, takenThen := ask(roomy(f, 2)) // it hangs on no address, and on no capacity
			if first != second {
				t.Errorf("%s: %v, and then %v", name, first, second)
			}
			holds(t, name+": Copy", copiedThen, copied)
			holds(t, name+": Take", takenThen, taken)
		}
	}
}

func TestManyAtOnce(t *testing.T) { // R4
	want := fnc.Put(nil, whole())
	done := make(chan bool)
	for range 8 {
		go func() {
			ok := true
			for range 200 {
				f := fnc.Take(cursor.New(want))
				ok = ok && fnc.Same(fnc.Copy(f), whole()) && fnc.Can(f) == api.OK && string(fnc.Put(nil, f)) == string(want)
			}
			done <- ok
		}()
	}
	for range 8 {
		if !<-done {
			t.Errorf("other answers, if many ask at once")
		}
	}
}
