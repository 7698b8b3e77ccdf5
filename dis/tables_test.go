package dis_test

import (
	"fmt"
	"math"
	"strings"
	"testing"

	"inlay/api"
	"inlay/dis"
	"inlay/tree"
)

// tabled tells a function of as many instructions as there are nodes, each with that node and that set, in a tree of one node.
func tabled(at []int, live ...api.Set) api.Func {
	f := api.Func{Name: "f", Nodes: []api.Node{{Parent: -1, To: 2}}, At: at, Live: live}
	for k := range at {
		f.Code, f.Lines = append(f.Code, api.Instr{Op: api.Push, A: 100 + k}), append(f.Lines, 500+k)
	}
	return f
}

func TestTablesOfBareFunctions(t *testing.T) { // P18.2: nothing, whatever else they have
	d := dice(8)
	for range 100 {
		f := d.function("f")
		tablesAre(t, f, "")
		f.Nodes, f.At, f.Live = []api.Node{}, []int{}, []api.Set{}
		tablesAre(t, f, "")
	}
	tablesAre(t, api.Func{}, "")
	tablesAre(t, api.Func{Inner: true}, "")
	tablesAre(t, plain("f"), "")
}

func TestTablesOfNamedFunctions(t *testing.T) { // P18.2
	tablesAre(t, whole(), "0 2 0\n  1 39 7\n0 0\n1 0 0\n2 1 0 5\n3 1 0 3 5\n4 1 1\n5 0 1\n")
	tablesAre(t, tabled([]int{0}, api.Set{}), "0 0 0\n0 0\n")
	tablesAre(t, tabled([]int{0}, set(0)), "0 0 0\n0 0 0\n")
	tablesAre(t, tabled([]int{0, 0}, set(1), set(0, 1)), "0 0 0\n0 0 1\n1 0 0 1\n")
}

func TestTablesBeginWithTheTree(t *testing.T) { // P18.2: ahead of all: a line a node, two blanks for each one above it
	f := tabled([]int{0, 3, 2}, set(), set(1), set(4))
	f.Nodes = []api.Node{
		{Parent: -1, Func: 7, To: 2},
		{Parent: 0, Func: 1, Line: 65535, From: 2, To: 3, Resume: 4},
		{Parent: 1, Func: 39, Line: 0, From: 3, To: 4, Resume: 5},
		{Parent: 2, Func: 0, Line: 12, From: 4, To: 5, Resume: 6},
		{Parent: 0, Func: 1, Line: 3, From: 5, To: 6, Resume: 1999},
	}
	tablesAre(t, f, "0 7 0\n  1 1 65535\n    2 39 0\n      3 0 12\n  4 1 3\n0 0\n1 3 1\n2 2 4\n")
	d := dice(9)
	for _, n := range []int{1, 2, 3, 119, 120, 121, 1000} {
		f.Nodes = d.nodes(n)
		tablesAre(t, f, tree.Text(f.Nodes)+"0 0\n1 3 1\n2 2 4\n")
	}
}

func TestTablesOfNodes(t *testing.T) { // P18.2: that of each instruction, be it one or not
	for _, at := range [][]int{
		{0}, {1}, {119}, {120}, {-1}, {least}, {greatest}, {0, 1, 2}, {2, 1, 0}, {1, 1, 1}, {0, 119, 0}, {5, 0, 5}, {10, 100, 1000}, {-1, least, greatest},
	} {
		want := "0 0 0\n"
		for k, n := range at {
			want += fmt.Sprintf("%d %d\n", k, n)
		}
		tablesAre(t, tabled(at, make([]api.Set, len(at))...), want)
		f := tabled(at)
		tablesAre(t, f, want) // without sets
	}
}

func TestTablesOfSets(t *testing.T) { // P18.2: of no slot, of one, of several, rising
	for _, l := range [][]int{
		{}, {0}, {1}, {2}, {9}, {10}, {62}, {63}, {64}, {65}, {99}, {100}, {127}, {128}, {191}, {192}, {254}, {255},
		{0, 1}, {0, 255}, {63, 64}, {0, 63, 64, 255}, {2, 10, 100}, {9, 10, 11, 19, 90, 100, 109, 190, 200}, {127, 128, 191, 192}, {62, 63, 64, 65, 126, 127, 128, 129, 190, 191, 192, 193, 254, 255},
	} {
		want := "0 0 0\n0 0"
		for _, slot := range l {
			want += fmt.Sprint(" ", slot)
		}
		tablesAre(t, tabled([]int{0}, set(l...)), want+"\n")
	}
	for slot := range 256 {
		tablesAre(t, tabled([]int{3, 2}, set(slot), set(255-slot)), fmt.Sprintf("0 0 0\n0 3 %d\n1 2 %d\n", slot, 255-slot))
	}
	want := "0 0 0\n0 0"
	for slot := range 256 {
		want += fmt.Sprint(" ", slot)
	}
	tablesAre(t, tabled([]int{0}, full()), want+"\n")
	tablesAre(t, tabled([]int{0, 1, 2}, full(), api.Set{}, full()), want+"\n1 1\n"+strings.Replace(strings.TrimPrefix(want, "0 0 0\n"), "0 0", "2 2", 1)+"\n")
}

func TestTablesOfSlotsBeyond(t *testing.T) { // P18.2: also such as the function has not
	f := tabled([]int{0, 0}, set(7, 200), api.Set{0, 0, 0, 1 << 63})
	tablesAre(t, f, "0 0 0\n0 0 7 200\n1 0 255\n")
	f.Params, f.Locals = types{1, 1}, times(6, api.Cx)
	tablesAre(t, f, "0 0 0\n0 0 7 200\n1 0 255\n")
}

func TestTablesOfMany(t *testing.T) { // P18.2: each instruction's number, from 0 on
	for _, n := range []int{1, 2, 9, 10, 11, 100, 101, 1999, 2000, 2001, 70000} {
		var at []int
		var live []api.Set
		var want strings.Builder
		want.WriteString("0 0 0\n")
		for k := range n {
			at, live = append(at, k%120), append(live, set(k%255, 255))
			fmt.Fprintf(&want, "%d %d %d 255\n", k, k%120, k%255)
		}
		tablesAre(t, tabled(at, live...), want.String())
	}
}

func TestTablesEndEachLine(t *testing.T) { // P18.2: by a byte 10, the last one too; a line has no blank at its end
	d := dice(11)
	for range 300 {
		f := d.tabled(d.function("f"))
		s := dis.Tables(f)
		if n := strings.Count(s, "\n"); n != len(f.Nodes)+len(f.Code) || !strings.HasSuffix(s, "\n") || strings.Contains(s, "\n\n") || strings.Contains(s, "\r") || strings.Contains(s, " \n") {
			t.Errorf("Tables of %s: %d lines: %s", show(f), n, short(s))
		}
	}
}

func TestTablesOfOneTable(t *testing.T) { // P18.2: of none of the others a function is not Bare yet
	f := tabled([]int{4, 5}, set(1), set(2, 3))
	g := f
	g.At, g.Live = nil, nil
	tablesAre(t, g, "0 0 0\n0 0\n1 0\n")
	g = f
	g.Nodes, g.Live = nil, nil
	tablesAre(t, g, "0 4\n1 5\n")
	g = f
	g.Nodes, g.At = nil, nil
	tablesAre(t, g, "0 0 1\n1 0 2 3\n")
	g = f
	g.Nodes = nil
	tablesAre(t, g, "0 4 1\n1 5 2 3\n")
	g = f
	g.At = nil
	tablesAre(t, g, "0 0 0\n0 0 1\n1 0 2 3\n")
	g = f
	g.Live = nil
	tablesAre(t, g, "0 0 0\n0 4\n1 5\n")
}

func TestTablesOfOtherLengths(t *testing.T) { // P18.2: node 0 and no slot where there is none; what is more counts for nothing
	f := tabled([]int{4, 5, 6}, set(1), set(2), set(3))
	f.At, f.Live = f.At[:1:1], f.Live[:2:2]
	tablesAre(t, f, "0 0 0\n0 4 1\n1 0 2\n2 0\n")
	f.At, f.Live = []int{4, 5, 6, 7, 8}, []api.Set{set(1), set(2), set(3), set(4), full()}
	tablesAre(t, f, "0 0 0\n0 4 1\n1 5 2\n2 6 3\n")
	f.Code = f.Code[:1]
	tablesAre(t, f, "0 0 0\n0 4 1\n")
	f.Code = nil
	tablesAre(t, f, "0 0 0\n")
	f.Nodes = nil
	tablesAre(t, f, "")
}

func TestTablesHangOnNothingElse(t *testing.T) { // P18.2: not on names, types, lines, nor on what the instructions are
	for _, f := range all() {
		g := api.Func{Code: make([]api.Instr, len(f.Code)), Nodes: f.Nodes, At: f.At, Live: f.Live}
		is(t, "Tables", f, dis.Tables(f), dis.Tables(g))
	}
}

func TestTablesOfNodesThatAreNoTree(t *testing.T) { // P18.2, R1
	for _, l := range [][]api.Node{
		{{}}, {{Parent: 1}, {}}, {{Parent: -1}, {Parent: 1}}, {{Parent: 2}, {Parent: 0}, {Parent: 1}}, {{Parent: least}, {Parent: greatest}},
		{{Parent: -1, Func: -1, Line: -1}, {Func: least, Line: greatest}}, {{Parent: math.MaxInt32}}, make([]api.Node, 500),
	} {
		f := tabled([]int{0, 1}, set(3), set(4))
		f.Nodes = l
		tablesAre(t, f, tree.Text(l)+"0 0 3\n1 1 4\n")
	}
}
