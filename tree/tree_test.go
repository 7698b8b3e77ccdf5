package tree_test

import (
	"bytes"
	"math"
	"slices"
	"strconv"
	"strings"
	"testing"

	"inlay/api"
	"inlay/cursor"
	"inlay/slots"
	"inlay/tree"
	"inlay/uvar"
)

const (
	least    = math.MinInt
	greatest = math.MaxInt

	most = 120 // how many nodes the chapter says that a tree may have
	all  = 256 // how many slots there are
)

type nodes = []api.Node

// example tells three nodes, each in the one ahead.
func example() nodes {
	return nodes{{Parent: -1, To: 2}, {Func: 1, From: 2, To: 3, Resume: 5}, {Parent: 1, Func: 2, From: 3, To: 3, Resume: 4}}
}

// dice tells numbers that look like any, the same ones each time.
type dice uint64

func (d *dice) roll(n int) int {
	*d = *d*6364136223846793005 + 1442695040888963407
	return int(*d >> 33 % dice(n))
}

// grown tells a tree of as many nodes as there are parents, with two slots each, one of which is a parameter.
func grown(parents ...int) nodes {
	var l nodes
	for n, parent := range parents {
		node := api.Node{Parent: parent, Func: n % 40, Line: 10 * n, From: 2 * n, Args: 1, To: 2*n + 2, Resume: n}
		l = append(l, node)
	}
	return l
}

// chain tells n nodes, each in the one ahead.
func chain(n int) nodes {
	var parents []int
	for k := range n {
		parents = append(parents, k-1)
	}
	return grown(parents...)
}

// fan tells n nodes, all in the first one.
func fan(n int) nodes {
	return grown(slices.Concat([]int{-1}, make([]int, n-1))...)
}

// forked tells n nodes, each of which has two kids, as far as there are as many.
func forked(n int) nodes {
	parents := []int{-1}
	for k := 1; k < n; k++ {
		parents = append(parents, (k-1)/2)
	}
	return grown(parents...)
}

// tree tells a tree of n nodes that may be.
func (d *dice) tree(n int) nodes {
	var l nodes
	free := 0
	for k := range n {
		node := api.Node{Parent: -1, Func: d.roll(40)}
		if k > 0 {
			node.Parent = max(d.roll(k), d.roll(k)*d.roll(2))
			node.Line = d.roll(65536)
			node.From = free + d.roll(min(3, all-free+1))
			node.Resume = 1 + d.roll(1999)
		}
		size := d.roll(min(5, all-node.From+1))
		node.Args = d.roll(min(8, size) + 1)
		node.To = node.From + size
		free = node.To
		l = append(l, node)
	}
	return l
}

// trees tells trees that may be: of one node, deep and broad ones, without slots, with all of them, and any.
func trees() []nodes {
	full := fan(32)
	for n := range full {
		full[n].From, full[n].Args, full[n].To = 8*n, 8, 8*n+8
	}
	full[0].From = 0
	l := []nodes{
		example(), full,
		{{Parent: -1}},
		{{Parent: -1, Func: 39, Args: 8, To: 256}},
		{{Parent: -1, To: 256}},
		{{Parent: -1, Args: 8, To: 8}, {Func: 39, Line: 65535, From: 8, Args: 8, To: 16, Resume: 1999}},
		{{Parent: -1, To: 1}, {Resume: 1, From: 255, To: 256}, {Resume: 1, From: 256, To: 256}, {Parent: 2, Resume: 1, From: 256, To: 256}},
		{{Parent: -1, To: 256}, {Resume: 1, From: 256, To: 256}, {Parent: 1, Resume: 1, From: 256, To: 256}},
		{{Parent: -1}, {Resume: 1, To: 1}, {Resume: 1, From: 1, To: 1}, {Parent: 2, Resume: 1, From: 5, To: 9}, {Parent: 2, Resume: 1, From: 9, To: 9}},
	}
	for _, n := range []int{1, 2, 3, 7, 64, most - 1, most} {
		l = append(l, chain(n), fan(n), forked(n))
	}
	for a := range 2 { // all of four nodes
		for b := range 3 {
			l = append(l, grown(-1, 0, a, b))
		}
	}
	d := dice(13)
	for range 200 {
		l = append(l, d.tree(1+d.roll(9)), d.tree(1+d.roll(most)))
	}
	return l
}

// fields tells the seven numbers of a node, in the order of the chapter.
func fields(x api.Node) []int {
	return []int{x.Parent, x.Func, x.Line, x.From, x.Args, x.To, x.Resume}
}

// with tells l, but for one number, the fieldth one, of node n.
func with(l nodes, n, field, v int) nodes {
	l = slices.Clone(l)
	x := fields(l[n])
	x[field] = v
	l[n] = api.Node{Parent: x[0], Func: x[1], Line: x[2], From: x[3], Args: x[4], To: x[5], Resume: x[6]}
	return l
}

const (
	parent = iota
	function
	line
	from
	args
	to
	resume
)

// wrongs tells nodes that are no tree, by the reason for which they are none: one thing is wrong of each.
func wrongs() map[string]nodes {
	l := map[string]nodes{
		"none":                          {},
		"one too many":                  fan(most + 1),
		"many too many":                 chain(1000),
		"slots that stand ahead":        with(grown(-1, 0, 0), 2, from, 3),
		"those of the parent's end":     with(grown(-1, 0, 0), 2, from, 2),
		"a parent in a later one":       with(chain(4), 1, parent, 3),
		"a circle":                      with(with(chain(4), 1, parent, 2), 2, parent, 1),
		"all in themselves":             grown(0, 1, 2, 3),
		"the first one in a later one":  with(chain(4), 0, parent, 3),
		"each in the one behind":        grown(1, 2, 3, -1),
		"no first one":                  chain(4)[1:],
		"the first one behind the rest": append(chain(4)[1:], chain(1)...),
		"the first one twice":           append(chain(1), chain(1)...),
		"a zero node":                   {{}},
	}
	for name, x := range map[string][]struct{ field, v int }{
		"of the first one": {{parent, 0}, {parent, -2}, {parent, 1}, {line, 1}, {line, -1}, {from, 1}, {from, -1}, {resume, 1}, {resume, -1}},
		"of the third one": {{parent, -1}, {parent, 2}, {parent, 3}, {parent, 4}, {parent, -2}, {from, 3}, {from, 0}, {resume, 0}, {resume, -1}, {resume, 2000}},
		"of the last one":  {{parent, -1}, {parent, 4}, {parent, 5}, {from, 7}, {resume, 0}, {resume, 2000}},
	} {
		n := map[string]int{"of the first one": 0, "of the third one": 2, "of the last one": 4}[name]
		for _, y := range x {
			l[name+": field "+strconv.Itoa(y.field)+", "+strconv.Itoa(y.v)] = with(chain(5), n, y.field, y.v)
		}
		for field, v := range map[int][]int{
			function: {-1, 40}, line: {-1, 65536}, args: {-1, 3, 9}, to: {-1, 2 * n, 2*n - 1, 257},
			parent: {least, greatest}, from: {least, greatest, 257}, resume: {least, greatest},
		} {
			for _, v := range append(v, least, greatest) {
				l[name+": field "+strconv.Itoa(field)+", "+strconv.Itoa(v)] = with(chain(5), n, field, v)
			}
		}
	}
	return l
}

// right tells what the chapter says that Right tells.
func right(l nodes) bool {
	behind := 0 // the greatest To so far
	for n, x := range l {
		switch {
		case x.Func < 0, x.Func > 39, x.Line < 0, x.Line > 65535, x.Args < 0, x.Args > 8:
			return false
		case x.From < behind, x.To < x.From, x.To > 256, x.To-x.From < x.Args: // in this order no difference wraps
			return false
		case n == 0 && (x.Parent != -1 || x.Line != 0 || x.From != 0 || x.Resume != 0):
			return false
		case n > 0 && (x.Parent < 0 || x.Parent >= n || x.Resume < 1 || x.Resume > 1999):
			return false
		}
		behind = max(behind, x.To)
	}
	return len(l) >= 1 && len(l) <= 120
}

// up tells what the chapter says that Up tells of a tree that is Right.
func up(l nodes, n int) []int {
	if n < 0 || n >= len(l) {
		return nil
	}
	return append([]int{n}, up(l, l[n].Parent)...)
}

// kids tells what the chapter says that Kids tells.
func kids(l nodes, n int) []int {
	var found []int
	for k, x := range l {
		if n >= 0 && x.Parent == n {
			found = append(found, k)
		}
	}
	return found
}

// own tells what the chapter says that Own tells: a slot is in it, if it is from From on, ahead of To.
func own(l nodes, n int) api.Set {
	var s api.Set
	for k, x := range l {
		for slot := range all {
			if k == n && slot >= x.From && slot < x.To {
				s[slot/64] |= 1 << (slot % 64)
			}
		}
	}
	return s
}

// laid tells what the chapter says that Put lays.
func laid(l nodes) []byte {
	b := uvar.Put(nil, uint64(len(l)))
	for _, x := range l {
		for _, v := range fields(x) {
			b = uvar.PutInt(b, v)
		}
	}
	return b
}

// taken tells what the chapter says that Take answers: the tree, how many bytes it has, and the error.
func taken(b []byte) (nodes, int, api.Errno) {
	many, size, err := uvar.Get(b)
	if err != api.OK {
		return nil, 0, err
	}
	if many > 120 {
		return nil, 0, api.ErrMany
	}
	var l nodes
	for n := range int(many) {
		l = append(l, api.Node{})
		for field := range 7 {
			v, k, err := uvar.GetInt(b[size:])
			if err != api.OK {
				return nil, 0, err
			}
			l = with(l, n, field, v)
			size += k
		}
	}
	if !right(l) {
		return nil, 0, api.ErrTable
	}
	return l, size, api.OK
}

// text tells what the chapter says that Text tells of a tree that is Right.
func text(l nodes) string {
	var s string
	for n, x := range l {
		for range up(l, x.Parent) {
			s += "  "
		}
		s += strconv.Itoa(n) + " " + strconv.Itoa(x.Func) + " " + strconv.Itoa(x.Line) + "\n"
	}
	return s
}

// around tells numbers of nodes of a tree of n, and of none: the ends, a middle one, one ahead and one beyond, the least and the greatest.
func around(n int) []int {
	return []int{0, 1, n / 2, n - 2, n - 1, -1, n, -2, n + 1, most - 1, most, -n, 1 << 32, 1<<32 + 1, least, least + 1, greatest - 1, greatest}
}

// joined tells bytes one behind the other.
func joined(parts ...[]byte) []byte {
	return bytes.Join(parts, nil)
}

// filled tells k bytes c, and others behind them.
func filled(k int, c byte, behind ...byte) []byte {
	return append(bytes.Repeat([]byte{c}, k), behind...)
}

// short tells as much of a list as may be shown.
func short[T any](l []T) []T {
	return l[:min(len(l), 30)]
}

// holds holds a list against what it should be; nil is as an empty one.
func holds[T comparable](t *testing.T, what string, got, want []T) {
	t.Helper()
	if !slices.Equal(got, want) {
		t.Errorf("%s: %d of them %v, want %d of them %v", what, len(got), short(got), len(want), short(want))
	}
}

// rights holds what Right tells of l against what it should.
func rights(t *testing.T, what string, l nodes, want bool) {
	t.Helper()
	if got := tree.Right(l); got != want {
		t.Errorf("Right of %s, %d nodes %v: %t", what, len(l), short(l), got)
	}
}

// takes holds what Take tells of b against what it should: behind an error nothing is left.
func takes(t *testing.T, b []byte, want nodes, size int, err api.Errno) {
	t.Helper()
	c := cursor.New(b)
	got := tree.Take(c)
	left := len(b) - size
	if err != api.OK {
		left = 0
	}
	if !slices.Equal(got, want) || c.Err() != err || c.Left() != left {
		t.Errorf("Take of %d bytes %v: %v, error %d, %d left, want %v, error %d, %d left",
			len(b), short(b), short(got), c.Err(), c.Left(), short(want), err, left)
	}
}

// takesAs holds what Take tells of b against the chapter.
func takesAs(t *testing.T, b []byte) {
	t.Helper()
	want, size, err := taken(b)
	takes(t, b, want, size, err)
}

func TestExample(t *testing.T) {
	holds(t, "Up", tree.Up(example(), 2), []int{2, 1, 0})
	rights(t, "the example", example(), true)
}

func TestTheTestsTreesAreRight(t *testing.T) { // P13.1
	for _, l := range trees() {
		rights(t, "a tree", l, true)
		if !right(l) {
			t.Errorf("a tree of the tests is none: %v", short(l))
		}
	}
}

func TestRightOfWhatIsNoTree(t *testing.T) { // P13.1
	for name, l := range wrongs() {
		rights(t, name, l, false)
	}
}

func TestRightOfHowMany(t *testing.T) { // P13.1
	rights(t, "nil", nil, false)
	rights(t, "none", nodes{}, false)
	for _, n := range []int{1, 2, 3, 50, 119, 120, 121, 122, 240, 256, 1000, 100000} {
		plain := slices.Repeat(nodes{{Resume: 1}}, n)
		plain[0] = api.Node{Parent: -1}
		rights(t, "many in the first one", plain, n <= 120)
	}
	for _, n := range []int{1, 119, 120, 121} {
		rights(t, "fan", fan(n), n <= 120)
		rights(t, "chain", chain(n), n <= 120)
	}
}

func TestRightAsksNothingBehindTheEnd(t *testing.T) { // P13.1
	l := append(chain(3), api.Node{}, api.Node{Parent: -9})
	rights(t, "a beginning", l[:3], true)
	rights(t, "more", l[:4], false)
	rights(t, "nothing of it", l[:0], false)
}

func TestRightOfTheFirstNode(t *testing.T) { // P13.1
	for _, x := range []struct {
		field, v int
		want     bool
	}{
		{parent, -1, true}, {parent, -2, false}, {parent, 0, false}, {parent, 1, false}, {parent, 2, false},
		{line, 0, true}, {line, 1, false}, {line, -1, false}, {line, 65535, false}, {line, 65536, false},
		{from, 0, true}, {from, 1, false}, {from, -1, false}, {from, 2, false}, {from, 256, false},
		{resume, 0, true}, {resume, 1, false}, {resume, -1, false}, {resume, 1999, false}, {resume, 2000, false},
		{function, 0, true}, {function, 39, true}, {function, 20, true}, {function, -1, false}, {function, 40, false},
		{args, 0, true}, {args, 1, true}, {args, 2, true}, {args, 3, false}, {args, -1, false},
		{to, 0, false}, {to, 1, true}, {to, 2, true}, {to, -1, false},
	} {
		for _, n := range []int{1, 2, 5, 120} {
			for _, l := range []nodes{chain(n), fan(n), forked(n)} {
				rights(t, "the first node changed", with(l, 0, x.field, x.v), x.want)
			}
		}
	}
	for v := -2; v <= 260; v++ {
		for _, a := range []int{0, 1, 7, 8, 9, -1} {
			l := nodes{{Parent: -1, Args: a, To: v}}
			rights(t, "one node of many sizes", l, a >= 0 && a <= 8 && v >= a && v <= 256)
		}
	}
}

func TestRightOfTheParentOfAnother(t *testing.T) { // P13.1
	for _, size := range []int{2, 3, 5, 64, 120} {
		for n := 1; n < size; n++ {
			for _, v := range []int{-3, -2, -1, 0, 1, n / 2, n - 2, n - 1, n, n + 1, n + 2, size - 1, size, size + 1, 119, 120, least, least + n, greatest - n, greatest, 1 << 32} {
				rights(t, "another parent", with(chain(size), n, parent, v), v >= 0 && v < n)
				rights(t, "another parent", with(fan(size), n, parent, v), v >= 0 && v < n)
			}
		}
	}
}

func TestRightOfTheSlotsOfAnother(t *testing.T) { // P13.1: From at least the greatest To ahead
	l := nodes{{Parent: -1, To: 10}, {From: 10, To: 30, Resume: 1}, {From: 30, To: 30, Resume: 1}, {Parent: 1, From: 40, To: 60, Resume: 1}, {Parent: 0, From: 60, To: 256, Resume: 1}}
	rights(t, "slots", l, true)
	for n, ahead := range []int{0, 10, 30, 30, 60} {
		for v := -1; v <= 257; v++ {
			want := v >= ahead && v <= l[n].To
			if n == 0 {
				want = v == 0
			}
			rights(t, "another From", with(l, n, from, v), want)
			last := l[:n+1]
			moved := with(with(last, n, from, v), n, to, v) // without slots
			rights(t, "another From of none", moved, (n > 0 || v == 0) && v >= ahead && v <= 256)
		}
	}
	// The greatest one of all ahead counts: of the parent, of the parent's kids, of what is none of these.
	for at, l := range []nodes{
		with(grown(-1, 0, 0), 2, from, 3),
		with(grown(-1, 0, 1, 0), 3, from, 5),
		with(grown(-1, 0, 1, 0), 3, from, 4),
		with(grown(-1, 0, 1, 0), 3, from, 2),
		with(grown(-1, 0, 1, 2), 3, from, 5),
		with(with(grown(-1, 0, 0, 0), 1, to, 5), 2, to, 6),
		{{Parent: -1, To: 9}, {From: 9, To: 9, Resume: 1}, {From: 8, To: 9, Resume: 1}},
		{{Parent: -1, To: 256}, {From: 255, To: 256, Resume: 1}},
		{{Parent: -1, To: 256}, {From: 0, To: 0, Resume: 1}},
		{{Parent: -1, To: 5}, {From: 0, To: 0, Resume: 1}},
		{{Parent: -1, To: 5}, {From: 4, To: 4, Resume: 1}},
	} {
		rights(t, "slots that stand ahead, "+strconv.Itoa(at), l, false)
	}
}

func TestRightOfResume(t *testing.T) { // P13.1
	for _, size := range []int{2, 3, 120} {
		for _, n := range []int{1, size / 2, size - 1} {
			for v := -3; v <= 2050; v++ {
				rights(t, "another Resume", with(chain(size), max(n, 1), resume, v), v >= 1 && v <= 1999)
			}
		}
	}
}

func TestRightOfEachNode(t *testing.T) { // P13.1: at the first, a middle and the last one
	for _, l := range []nodes{chain(1), chain(2), forked(5), fan(120)} {
		for _, n := range []int{0, len(l) / 2, len(l) - 1} {
			last := l[:n+1] // another To may be no wrong of those behind
			begin := l[n].From
			for _, v := range []int{-2, -1, 0, 1, 38, 39, 40, 41, 128, 256} {
				rights(t, "another Func", with(l, n, function, v), v >= 0 && v <= 39)
			}
			for _, v := range []int{-2, -1, 0, 1, 255, 256, 32767, 32768, 65534, 65535, 65536, 65537, 131072} {
				rights(t, "another Line", with(l, n, line, v), v == 0 || n > 0 && v >= 1 && v <= 65535)
			}
			for v := -2; v <= 20; v++ {
				rights(t, "another Args", with(l, n, args, v), v >= 0 && v <= 2)
				rights(t, "another Args of more slots", with(with(last, n, args, v), n, to, 256), v >= 0 && v <= 8)
				for k := -3; k <= 12; k++ {
					want := v >= 0 && v <= 8 && k >= v
					rights(t, "another Args, another To", with(with(last, n, args, v), n, to, begin+k), want)
				}
			}
			for v := -3; v <= 300; v++ {
				rights(t, "another To", with(last, n, to, v), v > begin && v <= 256)
				rights(t, "another To without Args", with(with(last, n, args, 0), n, to, v), v >= begin && v <= 256)
			}
		}
	}
}

func TestRightOfNumbersAtTheirEnds(t *testing.T) { // P13.1, R1, R6
	ends := []int{
		least, least + 1, least + 8, least + 255, least + 256, least + 257, greatest, greatest - 1, greatest - 7, greatest - 8, greatest - 256,
		-1 << 32, 1 << 32, 1<<32 + 1, 1 << 31, -1 << 31, 1 << 62, 1<<16 + 1, -1 << 16,
	}
	for _, l := range []nodes{chain(1), chain(3), forked(5), fan(120)} {
		for _, n := range []int{0, len(l) / 2, len(l) - 1} {
			for field := range 7 {
				for _, v := range ends {
					rights(t, "a number at its end", with(l, n, field, v), false)
				}
			}
			for _, v := range ends { // From and Args that would wrap, and each To that would be beyond them then
				for _, a := range []int{0, 1, 2, 7, 8, 9, least, greatest} {
					for _, end := range append([]int{0, 7, 255, 256, -1, -8}, ends...) {
						rights(t, "numbers that wrap", with(with(with(l, n, from, v), n, args, a), n, to, end), false)
					}
				}
			}
		}
	}
}

func TestRightOfChangedTrees(t *testing.T) { // P13.1
	d := dice(7)
	kept, lost := 0, 0
	change := func(l nodes) nodes {
		n, field := d.roll(len(l)), d.roll(7)
		v := fields(l[n])[field]
		switch d.roll(3) {
		case 0:
			v += d.roll(5) - 2
		case 1:
			v = d.roll(300) - 20
		case 2:
			v = fields(l[d.roll(len(l))])[d.roll(7)]
		}
		return with(l, n, field, v)
	}
	for range 20000 {
		l := change(d.tree(1 + d.roll(6)))
		if d.roll(2) == 0 {
			l = change(l)
		}
		rights(t, "a changed tree", l, right(l))
		if right(l) {
			kept++
		} else {
			lost++
		}
	}
	if kept < 2000 || lost < 2000 {
		t.Errorf("of the changed trees %d are right, %d are not: too few to tell", kept, lost)
	}
}

func TestUp(t *testing.T) { // P13.2
	l := grown(-1, 0, 1, 0, 3, 3, 5)
	for n, want := range [][]int{{0}, {1, 0}, {2, 1, 0}, {3, 0}, {4, 3, 0}, {5, 3, 0}, {6, 5, 3, 0}} {
		holds(t, "Up", tree.Up(l, n), want)
		if got := tree.Depth(l, n); got != len(want) {
			t.Errorf("Depth of node %d: %d", n, got)
		}
	}
	for _, n := range []int{-1, -2, 7, 8, 120, least, greatest} {
		holds(t, "Up of no node", tree.Up(l, n), nil)
		if got := tree.Depth(l, n); got != 0 {
			t.Errorf("Depth of no node %d: %d", n, got)
		}
	}
	var falling []int
	for n := 119; n >= 0; n-- {
		falling = append(falling, n)
	}
	holds(t, "Up of the last of all", tree.Up(chain(120), 119), falling)
	holds(t, "Up of a middle one", tree.Up(chain(120), 60), falling[59:])
	holds(t, "Up of the last one in the first", tree.Up(fan(120), 119), []int{119, 0})
	holds(t, "Up of one", tree.Up(chain(1), 0), []int{0})
}

func TestUpAndDepthOfManyTrees(t *testing.T) { // P13.2
	for _, l := range trees() {
		for _, n := range append(around(len(l)), up(l, len(l)-1)...) {
			want := up(l, n)
			holds(t, "Up", tree.Up(l, n), want)
			if got := tree.Depth(l, n); got != len(want) {
				t.Errorf("Depth of node %d of %v: %d, want %d", n, short(l), got, len(want))
			}
		}
	}
}

func TestInside(t *testing.T) { // P13.2
	l := grown(-1, 0, 1, 0, 3, 3, 5)
	for n, want := range []string{"0", "01", "012", "03", "034", "035", "0356"} {
		for under := range 7 {
			if got := tree.Inside(l, n, under); got != strings.Contains(want, strconv.Itoa(under)) {
				t.Errorf("Inside of node %d and %d: %t", n, under, got)
			}
		}
		for _, none := range []int{-1, -2, 7, 8, 120, least, greatest} {
			if tree.Inside(l, n, none) || tree.Inside(l, none, n) || tree.Inside(l, none, none) {
				t.Errorf("Inside of node %d and %d, either way, or of %d twice: true", n, none, none)
			}
		}
	}
	for _, none := range []int{-1, 1, least, greatest} {
		if tree.Inside(chain(1), 0, none) || tree.Inside(chain(1), none, 0) || tree.Inside(chain(1), none, none) {
			t.Errorf("Inside of the only node and %d: true", none)
		}
	}
	if !tree.Inside(chain(1), 0, 0) || !tree.Inside(chain(120), 119, 0) || tree.Inside(chain(120), 0, 119) || tree.Inside(fan(120), 119, 118) {
		t.Errorf("Inside of the ends of trees")
	}
}

func TestInsideOfManyTrees(t *testing.T) { // P13.2
	for _, l := range trees() {
		for _, n := range around(len(l)) {
			way := up(l, n)
			for _, under := range append(around(len(l)), way...) {
				if got := tree.Inside(l, n, under); got != slices.Contains(way, under) {
					t.Errorf("Inside of node %d and %d of %v: %t", n, under, short(l), got)
				}
			}
		}
	}
}

func TestKids(t *testing.T) { // P13.2
	l := grown(-1, 0, 1, 0, 3, 3, 5, 0)
	for n, want := range [][]int{{1, 3, 7}, {2}, nil, {4, 5}, nil, {6}, nil, nil} {
		holds(t, "Kids", tree.Kids(l, n), want)
	}
	for _, n := range []int{-1, -2, 8, 9, 120, least, greatest} {
		holds(t, "Kids of no node", tree.Kids(l, n), nil)
	}
	holds(t, "Kids of the only node", tree.Kids(chain(1), 0), nil)
	holds(t, "Kids ahead of the only node", tree.Kids(chain(1), -1), nil)
	var others []int
	for n := 1; n < 120; n++ {
		others = append(others, n)
	}
	holds(t, "many Kids", tree.Kids(fan(120), 0), others)
	holds(t, "no Kids of the second of many", tree.Kids(fan(120), 1), nil)
	holds(t, "the only one of Kids", tree.Kids(chain(120), 118), []int{119})
	holds(t, "no Kids of the last one", tree.Kids(chain(120), 119), nil)
}

func TestKidsOfManyTrees(t *testing.T) { // P13.2
	for _, l := range trees() {
		many := 0
		for n := range l {
			got := tree.Kids(l, n)
			holds(t, "Kids", got, kids(l, n))
			many += len(got)
		}
		if many != len(l)-1 {
			t.Errorf("each node but the first one is one's kid: %d of %d", many, len(l))
		}
		for _, n := range around(len(l)) {
			holds(t, "Kids", tree.Kids(l, n), kids(l, n))
		}
	}
}

func TestOwn(t *testing.T) { // P13.2
	l := nodes{{Parent: -1, To: 1}, {From: 1, To: 1, Resume: 1}, {From: 5, Args: 2, To: 9, Resume: 1}, {Parent: 2, From: 9, To: 255, Resume: 1}, {Parent: 1, From: 255, To: 256, Resume: 1}}
	rights(t, "nodes with slots", l, true)
	for n, want := range []api.Set{slots.Of(0), {}, slots.Of(5, 6, 7, 8), slots.Range(9, 255), slots.Of(255)} {
		if got := tree.Own(l, n); got != want {
			t.Errorf("Own of node %d: %v, want %v", n, got, want)
		}
	}
	for _, n := range []int{-1, -2, 5, 6, 120, least, greatest} {
		if got := tree.Own(l, n); got != (api.Set{}) {
			t.Errorf("Own of no node %d: %v", n, got)
		}
	}
	every := nodes{{Parent: -1, Args: 8, To: 256}, {From: 256, To: 256, Resume: 1}}
	if got := tree.Own(every, 0); got != (api.Set{1<<64 - 1, 1<<64 - 1, 1<<64 - 1, 1<<64 - 1}) {
		t.Errorf("Own of all slots: %v", got)
	}
	if tree.Own(every, 1) != (api.Set{}) || tree.Own(nodes{{Parent: -1}}, 0) != (api.Set{}) {
		t.Errorf("Own of no slots")
	}
}

func TestOwnOfManyTrees(t *testing.T) { // P13.2
	for _, l := range trees() {
		for _, n := range around(len(l)) {
			if got, want := tree.Own(l, n), own(l, n); got != want {
				t.Errorf("Own of node %d of %v: %v, want %v", n, short(l), got, want)
			}
		}
	}
}

// unlike holds that no two nodes of l have a slot in common, and that each has as many as From and To say.
func unlike(t *testing.T, l nodes) {
	t.Helper()
	var met api.Set
	for n, x := range l {
		s := tree.Own(l, n)
		if slots.Sub(met, s) != met {
			t.Errorf("node %d of %v has a slot of one ahead", n, short(l))
		}
		if slots.Count(s) != x.To-x.From {
			t.Errorf("node %d of %v has %d slots", n, short(l), slots.Count(s))
		}
		met = slots.Or(met, s)
	}
}

func TestNoTwoNodesHaveASlotInCommon(t *testing.T) { // P13.4
	for _, l := range trees() {
		unlike(t, l)
	}
	d := dice(99)
	held := 0
	for range 30000 { // whatever Right says to be a tree
		l := d.tree(2 + d.roll(4))
		for range 1 + d.roll(2) {
			l = with(l, d.roll(len(l)), from+2*d.roll(2), d.roll(12))
		}
		if tree.Right(l) {
			held++
			unlike(t, l)
		}
	}
	if held < 1000 {
		t.Errorf("of the changed trees %d are right: too few to tell", held)
	}
}

func TestPut(t *testing.T) { // P13.3
	for name, x := range map[string]struct {
		b    []byte
		l    nodes
		want []byte
	}{
		"nothing, nil":               {nil, nil, []byte{0}},
		"nothing, none":              {nil, nodes{}, []byte{0}},
		"empty, none":                {[]byte{}, nil, []byte{0}},
		"bytes, none":                {[]byte{7, 255}, nil, []byte{7, 255, 0}},
		"the example":                {nil, example(), []byte{3, 1, 0, 0, 0, 0, 4, 0, 0, 2, 0, 4, 0, 6, 10, 2, 4, 0, 6, 0, 6, 8}},
		"behind bytes":               {[]byte{3, 0, 128}, example()[:1], []byte{3, 0, 128, 1, 1, 0, 0, 0, 0, 4, 0}},
		"a node in order":            {nil, nodes{{Parent: 1, Func: 2, Line: 3, From: 4, Args: 5, To: 6, Resume: 7}}, []byte{1, 2, 4, 6, 8, 10, 12, 14}},
		"numbers below 0":            {nil, nodes{{Parent: -1, Func: -2, Line: -3, From: -4, Args: -5, To: -6, Resume: -7}}, []byte{1, 1, 3, 5, 7, 9, 11, 13}},
		"numbers of more bytes":      {nil, nodes{{Parent: -1, Func: 39, Line: 65535, From: 64, Args: 8, To: 256, Resume: 1999}}, []byte{1, 1, 78, 254, 255, 7, 128, 1, 16, 128, 4, 158, 31}},
		"numbers at their ends":      {nil, nodes{{Parent: least, Resume: greatest}}, joined([]byte{1}, filled(9, 255, 1), []byte{0, 0, 0, 0, 0, 254}, filled(8, 255, 1))},
		"a zero node":                {[]byte{9}, nodes{{}}, []byte{9, 1, 0, 0, 0, 0, 0, 0, 0}},
		"127 nodes that are no tree": {nil, make(nodes, 127), joined([]byte{127}, make([]byte, 7*127))},
		"128 nodes that are no tree": {nil, make(nodes, 128), joined([]byte{128, 1}, make([]byte, 7*128))},
	} {
		t.Run(name, func(t *testing.T) { holds(t, "Put", tree.Put(x.b, x.l), x.want) })
	}
}

func TestPutOfManyTrees(t *testing.T) { // P13.3
	l := trees()
	for _, x := range wrongs() {
		l = append(l, x)
	}
	for _, l := range l {
		holds(t, "behind nothing", tree.Put(nil, l), laid(l))
		holds(t, "behind bytes", tree.Put([]byte{1, 0, 200}, l), joined([]byte{1, 0, 200}, laid(l)))
	}
}

func TestPutBehindAListWithRoom(t *testing.T) { // P13.3, R3: bytes behind the list's end stay, but where Put lays its own
	for _, l := range []nodes{nil, example()[:1], example(), chain(120), make(nodes, 130), grown(5, 5)} {
		want := laid(l)
		for room := range len(want) + 12 {
			whole := filled(3+room, 77)
			b := whole[:3]
			got := tree.Put(b, l)
			holds(t, "Put", got, joined(filled(3, 77), want))
			holds(t, "what was handed in", b, filled(3, 77))
			if room < len(want) { // they do not fit: all of it is as it was
				holds(t, "the room that is too small", whole, filled(3+room, 77))
			} else {
				holds(t, "what is behind", whole[3+len(want):], filled(room-len(want), 77))
			}
		}
	}
}

func TestTakeOfNamedBytes(t *testing.T) { // P13.3
	plain := []byte{1, 1, 0, 0, 0, 0, 0, 0} // a node alone
	takes(t, plain, nodes{{Parent: -1}}, 8, api.OK)
	takes(t, joined(plain, []byte{0, 128, 77}), nodes{{Parent: -1}}, 8, api.OK)
	takes(t, []byte{3, 1, 0, 0, 0, 0, 4, 0, 0, 2, 0, 4, 0, 6, 10, 2, 4, 0, 6, 0, 6, 8}, example(), 22, api.OK)
	for name, x := range map[string]struct {
		b   []byte
		err api.Errno
	}{
		"no bytes":                          {nil, api.ErrShort},
		"no nodes":                          {[]byte{0}, api.ErrTable},
		"no nodes, bytes behind":            {joined([]byte{0}, plain), api.ErrTable},
		"how many is cut off":               {[]byte{129}, api.ErrShort},
		"how many is not the shortest":      {[]byte{129, 0}, api.ErrLong},
		"how many is a 0 too long":          {[]byte{128, 0}, api.ErrLong},
		"how many is too long":              {filled(9, 255, 2), api.ErrForm},
		"how many is far too long":          {filled(12, 255, 1), api.ErrForm},
		"121":                               {[]byte{121}, api.ErrMany},
		"128":                               {[]byte{128, 1}, api.ErrMany},
		"257":                               {[]byte{129, 2}, api.ErrMany},
		"1, but for bits beyond 32":         {[]byte{129, 128, 128, 128, 16}, api.ErrMany},
		"the greatest number":               {filled(9, 255, 1), api.ErrMany},
		"121, and all of them":              {tree.Put(nil, fan(121)), api.ErrMany},
		"121, of which the first is wrong":  {tree.Put(nil, grown(slices.Repeat([]int{7}, 121)...)), api.ErrMany},
		"1000, and all of them":             {tree.Put(nil, chain(1000)), api.ErrMany},
		"only how many":                     {[]byte{1}, api.ErrShort},
		"120 of which there are none":       {[]byte{120}, api.ErrShort},
		"one of two":                        {joined([]byte{2}, plain[1:]), api.ErrShort},
		"119 of 120":                        {joined([]byte{120}, tree.Put(nil, fan(119))[1:]), api.ErrShort},
		"no nodes, and seven bytes of 0":    {make([]byte, 8), api.ErrTable},
		"a zero node":                       {joined([]byte{1}, make([]byte, 7)), api.ErrTable},
		"a wrong one that is cut off":       {[]byte{1, 0, 0, 0, 0, 0, 0}, api.ErrShort},
		"a wrong one ahead of one cut off":  {joined([]byte{2}, make([]byte, 13)), api.ErrShort},
		"a wrong one ahead of one too long": {joined([]byte{2}, make([]byte, 13), filled(11, 128)), api.ErrForm},
		"a wrong one ahead of 130 0":        {joined([]byte{2}, make([]byte, 13), []byte{130, 0}), api.ErrLong},
		"two errors, cut off ahead":         {joined([]byte{1, 130, 0}, filled(10, 255, 2)), api.ErrLong},
		"two errors, too long ahead":        {joined([]byte{1, 1}, filled(9, 255, 2), []byte{130, 0}), api.ErrForm},
	} {
		t.Run(name, func(t *testing.T) {
			takes(t, x.b, nil, 0, x.err)
			if x.err == api.ErrShort {
				return
			}
			for _, behind := range [][]byte{{0}, plain, {128}, filled(20, 255)} {
				takes(t, joined(x.b, behind), nil, 0, x.err)
			}
		})
	}
}

func TestTakeOfWhatIsNoTree(t *testing.T) { // P13.3: for each of the reasons
	for name, l := range wrongs() {
		err := api.ErrTable
		if len(l) > most {
			err = api.ErrMany
		}
		t.Run(name, func(t *testing.T) {
			b := tree.Put(nil, l)
			takes(t, b, nil, 0, err)
			takes(t, joined(b, []byte{1, 2, 3}), nil, 0, err)
			if err == api.ErrTable && len(l) > 0 { // that bytes are missing is named first
				takes(t, b[:len(b)-1], nil, 0, api.ErrShort)
			}
		})
	}
}

func TestTakeOfWhatWasPut(t *testing.T) { // P13.3
	var b []byte
	for _, l := range trees() {
		one := tree.Put(nil, l)
		takes(t, one, l, len(one), api.OK)
		takes(t, joined(one, []byte{1, 2}), l, len(one), api.OK)
		takes(t, joined(one, filled(3, 255)), l, len(one), api.OK)
		b = tree.Put(b, l)
	}
	c := cursor.New(b)
	for k, l := range trees() {
		if got := tree.Take(c); !slices.Equal(got, l) {
			t.Fatalf("tree %d: %v, want %v, error %d", k, short(got), short(l), c.Err())
		}
	}
	if err := c.End(); err != api.OK {
		t.Errorf("behind all: error %d, %d left", err, c.Left())
	}
}

func TestTakeLeavesWhatIsBehind(t *testing.T) { // P13.3
	c := cursor.New(joined(tree.Put(nil, example()), []byte{77}, tree.Put(nil, fan(120)), []byte{172, 2}))
	holds(t, "the first", tree.Take(c), example())
	if got := c.Byte(); got != 77 {
		t.Errorf("the byte behind it: %d, want 77", got)
	}
	holds(t, "the second", tree.Take(c), fan(120))
	if got := c.Num(300); got != 300 || c.End() != api.OK {
		t.Errorf("the number behind it: %d, error %d, %d left", got, c.End(), c.Left())
	}
	holds(t, "behind the end", tree.Take(c), nil)
	if c.Err() != api.ErrShort {
		t.Errorf("behind the end: error %d", c.Err())
	}
}

func TestTakeOfACutTree(t *testing.T) { // P13.3
	for _, l := range []nodes{{{Parent: -1}}, example(), chain(120), {{Parent: -1, To: 256}, {Func: 39, Line: 65535, From: 256, To: 256, Resume: 1999}}} {
		b := tree.Put(nil, l)
		for size := range b {
			takes(t, b[:size], nil, 0, api.ErrShort)
		}
	}
}

func TestTakeOfATreeWithAByteChanged(t *testing.T) { // P13.3
	for _, l := range []nodes{{{Parent: -1}}, example(), forked(5), {{Parent: -1, To: 256}, {Func: 39, Line: 65535, From: 256, To: 256, Resume: 1999}}} {
		b := tree.Put(nil, l)
		for k := range b {
			for x := range 256 {
				changed := slices.Clone(b)
				changed[k] = byte(x)
				takesAs(t, changed)
			}
		}
	}
}

func TestTakeOfANumberThatIsNone(t *testing.T) { // P13.3: at each of the places where one stands
	l := nodes{{Parent: -1, Func: 3, Args: 1, To: 80}, {Func: 39, Line: 65535, From: 90, Args: 8, To: 200, Resume: 1999}, {Parent: 1, From: 200, To: 256, Resume: 70}}
	parts := [][]byte{{3}} // each number's bytes
	for _, x := range l {
		for _, v := range fields(x) {
			parts = append(parts, uvar.PutInt(nil, v))
		}
	}
	rights(t, "nodes of long and short numbers", l, true)
	takes(t, joined(parts...), l, len(joined(parts...)), api.OK)
	for at, part := range parts {
		longer := slices.Clone(part) // one byte more than there need be
		longer[len(longer)-1] |= 128
		longer = append(longer, 0)
		for _, x := range []struct {
			b    []byte
			err  api.Errno
			ends bool // is it the end of the bytes?
		}{
			{longer, api.ErrLong, false}, {[]byte{128, 0}, api.ErrLong, false}, {filled(9, 128, 2), api.ErrForm, false}, {filled(11, 255), api.ErrForm, false},
			{nil, api.ErrShort, true}, {[]byte{128}, api.ErrShort, true}, {filled(9, 255), api.ErrShort, true}, {longer[:len(longer)-1], api.ErrShort, true},
		} {
			b := joined(joined(parts[:at]...), x.b)
			if !x.ends {
				takes(t, joined(b, joined(parts[at+1:]...)), nil, 0, x.err)
			}
			takes(t, b, nil, 0, x.err)
			if at > 1 { // as well if what is ahead is of no tree
				b[1] = 0
				takes(t, b, nil, 0, x.err)
			}
		}
	}
}

func TestTakeOfANumberAtItsEnd(t *testing.T) { // P13.3, R6
	for _, l := range []nodes{chain(1), forked(5)} {
		for n := range l {
			for field := range 7 {
				for _, v := range []int{least, least + 1, greatest - 8, greatest, 1 << 32, -1 << 32} {
					takes(t, tree.Put(nil, with(l, n, field, v)), nil, 0, api.ErrTable)
				}
			}
		}
	}
}

func TestWhatIsTakenIsPut(t *testing.T) { // P13.3: bytes that are taken are just those that are put
	d := dice(5)
	held := 0
	for range 40000 {
		b := tree.Put(nil, d.tree(1+d.roll(3)))
		for range d.roll(3) {
			b[d.roll(len(b))] = byte(d.roll(12))
		}
		takesAs(t, b)
		c := cursor.New(b)
		if l := tree.Take(c); c.Err() == api.OK {
			held++
			holds(t, "what was taken, put again", tree.Put(nil, l), b[:len(b)-c.Left()])
		}
	}
	if held < 5000 {
		t.Errorf("of the bytes %d begin with a tree: too few to tell", held)
	}
}

func TestTakeBehindAnError(t *testing.T) { // P13.3, R2: the cursor's error stays
	for _, err := range []api.Errno{api.ErrMade, api.ErrArg, api.ErrShort, api.ErrLong, api.ErrForm, api.ErrMany, api.ErrTable, api.ErrNone, 77, -1} {
		for _, b := range [][]byte{nil, {0}, {1}, {121}, {128, 0}, tree.Put(nil, example()), make([]byte, 30)} {
			c := cursor.New(b)
			c.Fail(err)
			for range 2 {
				if got := tree.Take(c); len(got) != 0 || c.Err() != err || c.Left() != 0 || c.End() != err {
					t.Errorf("Take of %v behind error %d: %v, error %d, %d left", b, err, got, c.Err(), c.Left())
				}
			}
		}
	}
}

func TestTakeKeepsTheFirstError(t *testing.T) { // P13.3, R2: and takes nothing more
	good := tree.Put(nil, example())
	for _, b := range [][]byte{{128}, {121}, {0}, {1}, {129, 0}, filled(12, 255), make([]byte, 8), joined([]byte{1}, make([]byte, 7)), joined([]byte{1, 0, 130, 0}, good)} {
		_, _, err := taken(joined(b, good))
		c := cursor.New(joined(b, good))
		for range 3 {
			if got := tree.Take(c); len(got) != 0 || c.Err() != err || c.Left() != 0 || err == api.OK {
				t.Errorf("Take of %v: %v, error %d, %d left, want error %d", b, got, c.Err(), c.Left(), err)
			}
		}
		c.Fail(api.ErrNone)
		if got := c.Byte(); got != 0 || c.Err() != err || c.End() != err {
			t.Errorf("behind Take of %v: byte %d, error %d, want %d", b, got, c.Err(), err)
		}
	}
}

func TestTakeOfACursorThatNoCallMade(t *testing.T) { // P13.3, R1, R5
	if got := tree.Take(nil); len(got) != 0 {
		t.Errorf("Take of nil: %v", got)
	}
	c := new(cursor.Cursor)
	for range 2 {
		if got := tree.Take(c); len(got) != 0 || c.Err() != api.ErrMade || c.Left() != 0 {
			t.Errorf("Take of a zero cursor: %v, error %d", got, c.Err())
		}
	}
}

func TestText(t *testing.T) { // P13.3
	for name, x := range map[string]struct {
		l    nodes
		want string
	}{
		"nil":     {nil, ""},
		"none":    {nodes{}, ""},
		"one":     {nodes{{Parent: -1, Func: 7, To: 3}}, "0 7 0\n"},
		"example": {example(), "0 0 0\n  1 1 0\n    2 2 0\n"},
		"line":    {nodes{{Parent: -1}, {Func: 39, Line: 65535, Resume: 1}, {Func: 1, Line: 10, Resume: 1}}, "0 0 0\n  1 39 65535\n  2 1 10\n"},
		"depths":  {grown(-1, 0, 1, 0, 3, 3, 5), "0 0 0\n  1 1 10\n    2 2 20\n  3 3 30\n    4 4 40\n    5 5 50\n      6 6 60\n"},
		"no tree": {nodes{{Parent: -1, Func: -3, Line: -12}, {Func: 400, Line: 1 << 40, From: -9}, {Parent: 1, Func: greatest, Line: least}}, "0 -3 -12\n  1 400 1099511627776\n    2 9223372036854775807 -9223372036854775808\n"},
	} {
		t.Run(name, func(t *testing.T) {
			if got := tree.Text(x.l); got != x.want {
				t.Errorf("%q, want %q", got, x.want)
			}
		})
	}
	lines := strings.Split(tree.Text(chain(120)), "\n")
	if len(lines) != 121 || lines[119] != strings.Repeat(" ", 238)+"119 39 1190" || lines[100] != strings.Repeat(" ", 200)+"100 20 1000" || lines[120] != "" {
		t.Errorf("Text of 120, each in the one ahead: %d lines, of which the last %q", len(lines), lines[len(lines)-1])
	}
}

func TestTextOfManyTrees(t *testing.T) { // P13.3
	for _, l := range trees() {
		if got, want := tree.Text(l), text(l); got != want {
			t.Errorf("Text: %q, want %q", got, want)
		}
	}
}

func TestTextOfNodesInLaterOnes(t *testing.T) { // P13.3: two blanks for each node above, also if that stands behind
	if got, want := tree.Text(grown(1, 2, -1, 0)), "    0 0 0\n  1 1 10\n2 2 20\n      3 3 30\n"; got != want {
		t.Errorf("%q, want %q", got, want)
	}
	if got, want := tree.Text(grown(9, -2, 1)), "0 0 0\n1 1 10\n  2 2 20\n"; got != want {
		t.Errorf("nodes in none: %q, want %q", got, want)
	}
}

// odd tells nodes that stand in themselves, in later ones, in a circle, or in none.
func odd() map[string]nodes {
	ring := func(n, by int) nodes {
		var parents []int
		for k := range n {
			parents = append(parents, (k+by)%n)
		}
		return grown(parents...)
	}
	back := ring(200, 1)
	back[199].Parent = -1
	return map[string]nodes{
		"one in itself":                 grown(0),
		"two in themselves":             grown(0, 1),
		"two in each other":             grown(1, 0),
		"kids of one in itself":         grown(0, 0, 1, 2),
		"below a circle":                grown(-1, 2, 1, 1, 3, 4),
		"below a later circle":          grown(1, 2, 3, 4, 3),
		"none":                          grown(-2, 7, least, greatest, -1, 6),
		"a ring of 3":                   ring(3, 1),
		"a ring of 100":                 ring(100, 1),
		"a ring of 500":                 ring(500, 7),
		"each in the one behind":        back,
		"far too many, each in itself":  ring(100000, 0),
		"far too many in the first one": fan(100000),
		"far too many, each ahead":      chain(2000),
	}
}

func TestAllEndsOfWhatIsNoTree(t *testing.T) { // R1: whatever nodes there are
	for name, l := range odd() {
		t.Run(name, func(t *testing.T) {
			rights(t, name, l, false)
			holds(t, "Put", tree.Put(nil, l), laid(l))
			lines := strings.Split(tree.Text(l), "\n")
			for n, x := range l {
				if want := strconv.Itoa(n) + " " + strconv.Itoa(x.Func) + " " + strconv.Itoa(x.Line); strings.TrimLeft(lines[n], " ") != want {
					t.Fatalf("line %d of Text: %q, want %q behind blanks", n, lines[n], want)
				}
			}
			if len(lines) != len(l)+1 {
				t.Errorf("Text: %d lines", len(lines))
			}
			for _, n := range around(len(l)) {
				tree.Up(l, n)
				tree.Kids(l, n)
				tree.Depth(l, n)
				tree.Own(l, n)
				tree.Inside(l, n, len(l)-1)
				tree.Inside(l, n, greatest)
			}
		})
	}
}

func TestAnswersAreNewMemory(t *testing.T) { // P13.2, P13.3, R3
	l := grown(-1, 0, 1, 0, 3, 3)
	was := slices.Clone(l)
	first, second := tree.Up(l, 4), tree.Up(l, 4)
	first[0], first[2] = 50, 60
	_ = append(first, 5)
	holds(t, "Up, another answer", second, []int{4, 3, 0})
	holds(t, "Up, a later answer", tree.Up(l, 4), []int{4, 3, 0})
	first, second = tree.Kids(l, 3), tree.Kids(l, 3)
	first[0], first[1] = 50, 60
	_ = append(first, 5)
	holds(t, "Kids, another answer", second, []int{4, 5})
	holds(t, "Kids, a later answer", tree.Kids(l, 3), []int{4, 5})
	holds(t, "what was handed in", l, was)

	b := tree.Put(nil, l)
	bytesWere := slices.Clone(b)
	one, other := tree.Take(cursor.New(b)), tree.Take(cursor.New(b))
	one[0].To, one[5].Func = 50, 60
	_ = append(one, api.Node{})
	holds(t, "Take, another answer", other, was)
	holds(t, "Take, a later answer", tree.Take(cursor.New(b)), was)
	holds(t, "the bytes handed in", b, bytesWere)

	put := tree.Put(nil, l)
	put[0], put[5] = 99, 99
	holds(t, "Put, a later answer", tree.Put(nil, l), bytesWere)
	l[1].Func = 9 // what was put stays as it was
	holds(t, "Put, behind a change of the nodes", b, bytesWere)
}

func TestNothingIsChanged(t *testing.T) { // R3: neither the nodes, nor what lies behind their end
	every := trees()
	for _, l := range wrongs() {
		every = append(every, l)
	}
	for _, l := range every {
		whole := append(slices.Clone(l), api.Node{Parent: 1, To: 9}, api.Node{Func: -6})
		was := slices.Clone(whole)
		part := whole[:len(l)]
		tree.Right(part)
		for _, n := range around(len(l))[:8] {
			tree.Up(part, n)
			tree.Inside(part, n, 0)
			tree.Kids(part, n)
			tree.Depth(part, n)
			tree.Own(part, n)
		}
		tree.Put(nil, part)
		tree.Put([]byte{1, 2, 3}, part)
		tree.Text(part)
		holds(t, "what was handed in", whole, was)
	}
}

func TestTheSameEachTime(t *testing.T) { // R4
	type answers struct {
		right, inside bool
		depth         int
		own           api.Set
		text          string
		up, kids, put string
	}
	ask := func(l nodes, n int) answers {
		show := func(l []int) string {
			var s string
			for _, x := range l {
				s += strconv.Itoa(x) + " "
			}
			return s
		}
		return answers{tree.Right(l), tree.Inside(l, n, 1), tree.Depth(l, n), tree.Own(l, n), tree.Text(l), show(tree.Up(l, n)), show(tree.Kids(l, n)), string(tree.Put(nil, l))}
	}
	every := trees()
	for k, l := range every {
		other := every[len(every)-1-k]
		for _, n := range []int{-1, 0, len(l) / 2, len(l) - 1, len(l)} {
			first := ask(l, n)
			ask(other, n)
			if second := ask(slices.Clone(l), n); first != second {
				t.Errorf("of node %d of %v: %v, and then %v", n, short(l), first, second)
			}
		}
	}
}

func FuzzTake(f *testing.F) { // P13.3, P13.4, P1
	f.Add(tree.Put(nil, example()))
	f.Add(tree.Put(nil, chain(120)))
	f.Add(tree.Put(nil, fan(121)))
	f.Add([]byte{1, 1, 0, 0, 0, 0, 0, 0})
	f.Add([]byte{1, 1, 0, 130, 0})
	f.Add(filled(12, 255))
	f.Fuzz(func(t *testing.T, b []byte) {
		was := slices.Clone(b)
		takesAs(t, b)
		c := cursor.New(b)
		if l := tree.Take(c); c.Err() == api.OK {
			holds(t, "what was taken, put again", tree.Put(nil, l), b[:len(b)-c.Left()])
			rights(t, "what was taken", l, true)
			unlike(t, l)
		}
		holds(t, "what was handed in", b, was)
	})
}

func FuzzNodes(f *testing.F) { // P13.1 to P13.4, P1: of each seven bytes a node
	f.Add([]byte{255, 0, 0, 0, 0, 2, 0, 0, 1, 0, 2, 0, 3, 5, 1, 2, 0, 3, 0, 3, 4}, uint8(2), 0)
	f.Add([]byte{0, 0, 0, 0, 0, 0, 0}, uint8(0), -1)
	f.Add([]byte{1, 0, 0, 0, 0, 0, 0, 0, 0, 0, 0, 0, 0, 0}, uint8(1), greatest)
	f.Fuzz(func(t *testing.T, b []byte, node uint8, n int) {
		var l nodes
		for ; len(b) >= 7; b = b[7:] {
			l = append(l, api.Node{})
			for field := range 7 {
				l = with(l, len(l)-1, field, int(int8(b[field])))
			}
		}
		was := slices.Clone(l)
		rights(t, "any nodes", l, right(l))
		holds(t, "Put", tree.Put(nil, l), laid(l))
		takesAs(t, tree.Put(nil, l))
		s := tree.Text(l)
		if strings.Count(s, "\n") != len(l) {
			t.Errorf("Text of %d nodes: %q", len(l), s)
		}
		for _, n := range []int{int(node), n} {
			way, in := tree.Up(l, n), tree.Inside(l, n, int(node))
			if !right(l) {
				continue // of these it is enough that the calls end
			}
			holds(t, "Up", way, up(l, n))
			holds(t, "Kids", tree.Kids(l, n), kids(l, n))
			if in != slices.Contains(way, int(node)) || tree.Depth(l, n) != len(way) || tree.Own(l, n) != own(l, n) || s != text(l) {
				t.Errorf("of node %d of %v: Inside %t, Depth %d, Own %v, Text %q", n, short(l), in, tree.Depth(l, n), tree.Own(l, n), s)
			}
			unlike(t, l)
		}
		holds(t, "what was handed in", l, was)
	})
}
