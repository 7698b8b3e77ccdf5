package fnc_test

import (
	"fmt"
	"slices"
	"testing"

	"inlay/api"
	"inlay/fnc"
)

// cans holds what Can tells of f; where it is not OK, that Put lays nothing of it too.
func cans(t *testing.T, what string, f api.Func, want api.Errno) {
	t.Helper()
	if got := fnc.Can(f); got != want {
		t.Errorf("%s: Can of %s: error %d, want %d", what, show(f), got, want)
	}
	if b := fnc.Put(nil, f); (len(b) > 0) != (want == api.OK) {
		t.Errorf("%s: Put of %s: %d bytes, error %d", what, show(f), len(b), want)
	}
}

// errno tells OK, if ok, and e, if not.
func errno(ok bool, e api.Errno) api.Errno {
	if ok {
		return api.OK
	}
	return e
}

func TestExample(t *testing.T) {
	cans(t, "the zero one", api.Func{}, api.ErrName)
}

func TestCanOfMany(t *testing.T) { // P15.1
	for name, f := range many() {
		cans(t, name, f, api.OK)
	}
}

func TestCanOfEmptyLists(t *testing.T) { // P15.1: an empty list is as none
	f := plain()
	f.Outer, f.Params, f.Results, f.Locals = types{}, types{}, types{}, types{}
	f.Nodes, f.At, f.Live = []api.Node{}, []int{}, []api.Set{}
	cans(t, "empty lists", f, api.OK)
	f.Inner = true
	cans(t, "empty lists, Inner", f, api.OK)
	f.Lines = []int{}
	cans(t, "empty lists, no line", f, api.ErrLine)
	f.Code = []api.Instr{}
	cans(t, "empty lists, no instruction", f, api.ErrMany)
}

func TestCanOfEachFault(t *testing.T) { // P15.1: of each function that can be laid, with just that one
	for name, f := range many() {
		for _, x := range faults() {
			g := f
			x.make(&g)
			if got := fnc.Can(g); got != x.err {
				t.Errorf("%s: %s: Can: error %d, want %d", name, x.name, got, x.err)
			}
		}
	}
}

func TestCanTellsTheErrorThatIsNamedFirst(t *testing.T) { // P15.1, R2
	told := map[[2]api.Errno]int{}
	for name, f := range few() {
		for _, x := range faults() {
			for _, y := range faults() {
				g := f
				x.make(&g)
				y.make(&g)
				want := can(g)
				cans(t, name+": "+x.name+", and "+y.name, g, want)
				if want == x.err || want == y.err {
					told[[2]api.Errno{x.err, y.err}]++
				}
			}
		}
	}
	kinds := []api.Errno{api.ErrName, api.ErrType, api.ErrMany, api.ErrOp, api.ErrLine, api.ErrTable}
	for _, e := range kinds {
		for _, with := range kinds {
			if told[[2]api.Errno{e, with}] < 10 {
				t.Errorf("errors %d and %d: %d of them, too few to tell", e, with, told[[2]api.Errno{e, with}])
			}
		}
	}
}

func TestCanOfTwoFaultsByHand(t *testing.T) { // P15.1, R2: each kind ahead of the one that is named next
	type change = func(f *api.Func)
	name := change(func(f *api.Func) { f.Name = "9" })
	typed := change(func(f *api.Func) { f.Params = types{3} })
	outer := change(func(f *api.Func) { f.Inner = false })
	many := change(func(f *api.Func) { f.Locals = times(253, api.Int) })
	none := change(func(f *api.Func) { f.Code = nil })
	op := change(func(f *api.Func) { f.Code[2].Op = 77 })
	line := change(func(f *api.Func) { f.Lines[5] = -1 })
	few := change(func(f *api.Func) { f.Lines = f.Lines[:3] })
	table := change(func(f *api.Func) { f.At[1] = 2 })
	live := change(func(f *api.Func) { f.Live = nil })
	for what, x := range map[string]struct {
		changes []change
		want    api.Errno
	}{
		"none":                     {nil, api.OK},
		"name and type":            {[]change{name, typed}, api.ErrName},
		"name and Outer":           {[]change{name, outer}, api.ErrName},
		"name and slots":           {[]change{name, many}, api.ErrName},
		"name and no instruction":  {[]change{name, none}, api.ErrName},
		"name and instruction":     {[]change{name, op}, api.ErrName},
		"name and line":            {[]change{name, line}, api.ErrName},
		"name and table":           {[]change{name, table}, api.ErrName},
		"type and slots":           {[]change{typed, many}, api.ErrType},
		"Outer and slots":          {[]change{outer, many}, api.ErrType},
		"Outer and no instruction": {[]change{outer, none}, api.ErrType},
		"type and instruction":     {[]change{typed, op}, api.ErrType},
		"type and line":            {[]change{typed, line}, api.ErrType},
		"Outer and table":          {[]change{outer, table}, api.ErrType},
		"slots and no instruction": {[]change{many, none}, api.ErrMany},
		"slots and instruction":    {[]change{many, op}, api.ErrMany},
		"slots and line":           {[]change{many, line}, api.ErrMany},
		"slots and table":          {[]change{many, table}, api.ErrMany},
		"no instruction and lines": {[]change{none, few}, api.ErrMany},
		"no instruction and table": {[]change{none, table}, api.ErrMany},
		"instruction and line":     {[]change{op, line}, api.ErrOp},
		"instruction and lines":    {[]change{op, few}, api.ErrOp},
		"instruction and table":    {[]change{op, table}, api.ErrOp},
		"instruction and Live":     {[]change{op, live}, api.ErrOp},
		"line and table":           {[]change{line, table}, api.ErrLine},
		"lines and Live":           {[]change{few, live}, api.ErrLine},
		"all":                      {[]change{name, typed, outer, many, op, line, table}, api.ErrName},
		"all but the name":         {[]change{typed, outer, many, op, line, table}, api.ErrType},
		"all from slots on":        {[]change{many, op, line, table}, api.ErrMany},
		"all from instructions on": {[]change{op, line, table}, api.ErrOp},
		"line and lines":           {[]change{line, few}, api.ErrLine},
		"table and Live":           {[]change{table, live}, api.ErrTable},
		"not Inner, and no Outer":  {[]change{outer, func(f *api.Func) { f.Outer = nil }}, api.OK},
	} {
		f := whole()
		for _, change := range x.changes {
			change(&f)
		}
		cans(t, what, f, x.want)
	}
}

func TestCanOfNames(t *testing.T) { // P15.1
	for s, may := range map[string]bool{
		"a": true, "z": true, "f0": true, "main": true, "a_": true, "abcdefghijkl": true, "a23456789012": true, "a___________": true,
		"": false, "A": false, "0": false, "_": false, " ": false, "a ": false, " a": false, "aB": false, "a.b": false, "abcdefghijklm": false, "a234567890123": false,
		"`": false, "{": false, "a/": false, "a:": false, "a`": false, "a{": false, "é": false, "a\xff": false, "\x00": false, "a\n": false,
	} {
		for kind, f := range few() {
			f.Name = s
			cans(t, fmt.Sprintf("%s, name %q", kind, s), f, errno(may, api.ErrName))
		}
	}
}

func TestCanOfHowManyTypes(t *testing.T) { // P15.1
	for _, x := range kinds() {
		for _, n := range []int{0, 1, 4, 5, 8, 9, 10, 255, 256, 257, 258, 5000} {
			for _, f := range []api.Func{plain(), tabled(plain())} {
				*x.of(&f) = times(n, api.Cx)
				cans(t, fmt.Sprint(x.name, " of ", n), f, errno(n <= x.most, api.ErrType))
			}
		}
	}
}

func TestCanOfATypeAtEachPlace(t *testing.T) { // P15.1: at the first, a middle and the last
	for _, x := range kinds() {
		for _, n := range []int{1, 2, 3, x.most} {
			for _, place := range []int{0, n / 2, n - 1} {
				for _, wrong := range append(wrongTypes(), api.Int, api.Cx) {
					if place >= n {
						continue
					}
					f := plain()
					*x.of(&f) = with(times(n, api.Int), place, wrong)
					cans(t, fmt.Sprintf("%s of %d, of which %d is %d", x.name, n, place, wrong), f, errno(wrong == 1 || wrong == 2, api.ErrType))
				}
			}
		}
	}
}

func TestCanOfAnOuter(t *testing.T) { // P15.1: with Inner and without
	for n := range 7 {
		for _, inner := range []bool{false, true} {
			for _, f := range []api.Func{plain(), whole(), bare(whole())} {
				f.Outer, f.Inner = times(n, api.Int), inner
				cans(t, fmt.Sprintf("Outer of %d, Inner %t", n, inner), f, errno(n <= 4 && (n == 0 || inner), api.ErrType))
			}
		}
	}
}

func TestCanOfHowManySlots(t *testing.T) { // P15.1: put together of params, results and locals in several ways
	for _, all := range []int{0, 1, 254, 255, 256, 257, 258} {
		for params := range 9 {
			for results := range 5 {
				locals := all - params - results
				if locals < 0 || locals > 256 {
					continue
				}
				for _, outer := range []int{0, 4} { // which are no slots
					f := typed(plain(), outer, params, results, locals)
					what := fmt.Sprintf("slots %d+%d+%d, Outer %d", params, results, locals, outer)
					cans(t, what, f, errno(all <= 256, api.ErrMany))
					cans(t, what+", tables", tabled(f), errno(all <= 256, api.ErrMany))
				}
			}
		}
	}
}

func TestCanOfHowManyInstructions(t *testing.T) { // P15.1
	for _, n := range []int{0, 1, 2, 1999, 2000, 2001, 2002, 4000, 70000} {
		for name, f := range few() {
			cans(t, fmt.Sprint(name, ", instructions ", n), coded(f, n), errno(n >= 1 && n <= 2000, api.ErrMany))
		}
	}
}

func TestCanOfAnInstructionAtEachPlace(t *testing.T) { // P15.1: at the first, a middle and the last
	for _, wrong := range []api.Instr{
		{Op: api.Ops}, {Op: api.Ops + 1}, {Op: -1}, {Op: 255}, {Op: 256}, {Op: 256 + api.Ret}, {Op: least}, {Op: greatest},
		{Op: api.Nop, A: 1}, {Op: api.Ret, A: -1}, {Op: api.Add, A: greatest}, {Op: api.Load, A: -1}, {Op: api.Load, A: 256}, {Op: api.Store, A: 256}, {Op: api.Jump, A: 2000},
		{Op: api.If, A: -1}, {Op: api.Call, A: 40}, {Op: api.Defer, A: 40}, {Op: api.GetRes, A: 4}, {Op: api.SetRes, A: -1}, {Op: api.Open, A: 120}, {Op: api.Close, A: 120},
	} {
		for _, n := range []int{1, 2, 3, 1000, 2000} {
			for _, place := range []int{0, n / 2, n - 1} {
				for _, f := range []api.Func{plain(), tabled(plain())} {
					f := coded(f, n)
					f.Code[place] = wrong
					cans(t, fmt.Sprintf("%v, of %d the one at %d", wrong, n, place), f, api.ErrOp)
				}
			}
		}
	}
}

func TestCanOfInstructionsAtTheirLimits(t *testing.T) { // P15.1: where they lead is not asked
	for _, i := range append(every(), api.Instr{Op: api.Push, A: least}, api.Instr{Op: api.Push, A: greatest}, api.Instr{Op: api.Load, A: 255}, api.Instr{Op: api.Jump, A: 1999},
		api.Instr{Op: api.Call, A: 39}, api.Instr{Op: api.Defer, A: 39}, api.Instr{Op: api.GetRes, A: 3}, api.Instr{Op: api.SetRes, A: 3}, api.Instr{Op: api.Open, A: 119}, api.Instr{Op: api.Close, A: 119}) {
		f := plain()
		f.Code[0] = i
		cans(t, fmt.Sprint(i), f, api.OK)
	}
}

func TestCanOfLines(t *testing.T) { // P15.1
	for _, n := range []int{1, 2, 3, 1999, 2000} {
		for _, more := range []int{-n, -2, -1, 0, 1, 2, 2000} {
			if n+more < 0 {
				continue
			}
			for _, f := range []api.Func{coded(plain(), n), coded(whole(), n)} {
				f.Lines = times(n+more, 5)
				cans(t, fmt.Sprintf("%d instructions, %d lines", n, n+more), f, errno(more == 0, api.ErrLine))
			}
		}
		for _, place := range []int{0, n / 2, n - 1} {
			for line, may := range map[int]bool{0: true, 1: true, 65534: true, 65535: true, 65536: false, -1: false, 1 << 32: false, least: false, greatest: false} {
				for _, f := range []api.Func{coded(plain(), n), coded(whole(), n)} {
					f.Lines[place] = line
					cans(t, fmt.Sprintf("of %d lines %d at %d", n, line, place), f, errno(may, api.ErrLine))
				}
			}
		}
	}
}

func TestCanOfTablesThatAreNotAllThere(t *testing.T) { // P15.1: each of Nodes, At and Live there alone
	f := tabled(plain())
	for n := range 8 {
		g := plain()
		if n&1 != 0 {
			g.Nodes = f.Nodes
		}
		if n&2 != 0 {
			g.At = f.At
		}
		if n&4 != 0 {
			g.Live = f.Live
		}
		cans(t, fmt.Sprintf("Nodes %d, At %d, Live %d", len(g.Nodes), len(g.At), len(g.Live)), g, errno(n == 0 || n == 7, api.ErrTable))
	}
}

func TestCanOfATree(t *testing.T) { // P15.1
	first := api.Node{Parent: -1, Func: 3, Args: 2, To: 9}
	next := api.Node{Func: 1, Line: 2, From: 9, To: 12, Resume: 4}
	for what, x := range map[string]struct {
		l     []api.Node
		right bool
	}{
		"one node":                        {[]api.Node{first}, true},
		"two nodes":                       {[]api.Node{first, next}, true},
		"its slots are more than it has":  {[]api.Node{{Parent: -1, To: 256}}, true}, // whether it is true is not asked
		"120 nodes":                       {chain(120), true},
		"121 nodes":                       {chain(121), false},
		"no nodes":                        {nil, false},
		"empty":                           {[]api.Node{}, false},
		"first has Parent 0":              {with([]api.Node{first}, 0, api.Node{To: 9}), false},
		"first has Parent -2":             {[]api.Node{{Parent: -2}}, false},
		"first has a Line":                {[]api.Node{{Parent: -1, Line: 1}}, false},
		"first has a From":                {[]api.Node{{Parent: -1, From: 1, To: 1}}, false},
		"first has a Resume":              {[]api.Node{{Parent: -1, Resume: 1}}, false},
		"first of function 40":            {[]api.Node{{Parent: -1, Func: 40}}, false},
		"To below Args":                   {[]api.Node{{Parent: -1, Args: 2, To: 1}}, false},
		"To beyond":                       {[]api.Node{{Parent: -1, To: 257}}, false},
		"second has Parent -1":            {[]api.Node{first, first}, false},
		"second has Parent 1":             {[]api.Node{first, {Parent: 1, From: 9, To: 9, Resume: 1}}, false},
		"second has slots of the first":   {[]api.Node{first, {From: 8, To: 12, Resume: 4}}, false},
		"second has no Resume":            {[]api.Node{first, {From: 9, To: 12}}, false},
		"third is wrong, but not the two": {[]api.Node{first, next, {Parent: 2, From: 12, To: 12, Resume: 1}}, false},
		"line beyond":                     {[]api.Node{first, {Line: 65536, From: 9, To: 12, Resume: 4}}, false},
	} {
		for kind, f := range few() {
			f = tabled(f)
			f.Nodes, f.At = x.l, times(len(f.Code), 0)
			cans(t, kind+", "+what, f, errno(x.right, api.ErrTable))
		}
	}
}

func TestCanOfHowManyOfAtAndLive(t *testing.T) { // P15.1
	for _, n := range []int{1, 2, 3, 1999, 2000} {
		f := coded(whole(), n)
		for _, more := range []int{-n, -2, -1, 0, 1, 2, n} {
			if n+more < 0 {
				continue
			}
			at, live, both := f, f, f
			at.At = times(n+more, 1)
			live.Live = times(n+more, set(2))
			both.At, both.Live = at.At, live.Live
			cans(t, fmt.Sprintf("%d instructions, %d of At", n, n+more), at, errno(more == 0, api.ErrTable))
			cans(t, fmt.Sprintf("%d instructions, %d of Live", n, n+more), live, errno(more == 0, api.ErrTable))
			cans(t, fmt.Sprintf("%d instructions, %d of both", n, n+more), both, errno(more == 0, api.ErrTable))
		}
	}
}

func TestCanOfANodeOfAt(t *testing.T) { // P15.1: -1, 0, the last node, the number just beyond it, and others
	for _, nodes := range []int{1, 2, 3, 119, 120} {
		for _, n := range []int{1, 3, 2000} {
			for _, place := range []int{0, n / 2, n - 1} {
				for _, node := range []int{least, -2, -1, 0, 1, nodes - 1, nodes, nodes + 1, 120, 1 << 32, greatest} {
					f := coded(whole(), n)
					f.Nodes = chain(nodes)
					f.At[place] = node
					cans(t, fmt.Sprintf("%d nodes, of %d of At %d at %d", nodes, n, node, place), f, errno(node >= 0 && node < nodes, api.ErrTable))
				}
			}
		}
	}
}

func TestCanOfASlotOfLive(t *testing.T) { // P15.1: the slot just below how many slots there are, that number itself, one beyond
	for _, x := range [][3]int{{0, 0, 0}, {1, 0, 0}, {0, 1, 0}, {0, 0, 1}, {3, 1, 2}, {8, 4, 0}, {8, 4, 51}, {8, 4, 52}, {8, 4, 53}, {0, 0, 127}, {0, 0, 128}, {8, 0, 184}, {8, 4, 243}, {0, 0, 255}, {8, 4, 244}, {0, 0, 256}} {
		slots := x[0] + x[1] + x[2]
		for _, n := range []int{1, 3, 50} {
			for _, place := range []int{0, n / 2, n - 1} {
				for _, slot := range []int{0, slots - 1, slots, slots + 1, slots + 64, 255} {
					if slot < 0 || slot > 255 {
						continue
					}
					f := typed(coded(whole(), n), 4, x[0], x[1], x[2]) // Outer has no slots
					f.Live[place] = set(slot)
					cans(t, fmt.Sprintf("slots %v, of %d of Live slot %d at %d", x, n, slot, place), f, errno(slot < slots, api.ErrTable))
				}
			}
		}
	}
}

func TestCanAsksNothingBehindTheEnd(t *testing.T) { // P15.1
	for name, f := range many() {
		cans(t, name, roomy(f, 3), api.OK)
	}
	for name, f := range wrongs() {
		cans(t, name, roomy(f, 3), can(f))
	}
}

func TestCanOfWhatMayNotBe(t *testing.T) { // P15.1, R1
	for name, f := range wrongs() {
		cans(t, name, f, can(f))
	}
	d := dice(3)
	all := faults()
	for range 3000 { // some faults of any, one behind the other
		f := d.function()
		var what []string
		for range d.roll(4) {
			x := all[d.roll(len(all))]
			x.make(&f)
			what = append(what, x.name)
		}
		cans(t, fmt.Sprint(what), f, can(f))
	}
}

func TestCanHangsOnTheFunctionAlone(t *testing.T) { // P15.1, R4: whatever was asked ahead
	var l []api.Func
	for _, f := range wrongs() {
		l = append(l, f)
	}
	for _, f := range few() {
		l = append(l, f)
	}
	var first []api.Errno
	for _, f := range l {
		first = append(first, fnc.Can(f))
	}
	for k, f := range slices.Backward(l) {
		if got := fnc.Can(f); got != first[k] {
			t.Errorf("Can of %s: error %d, and then %d", show(f), first[k], got)
		}
	}
}
