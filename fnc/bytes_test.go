package fnc_test

import (
	"bytes"
	"fmt"
	"slices"
	"testing"

	"inlay/api"
	"inlay/cursor"
	"inlay/fnc"
	"inlay/instr"
	"inlay/lines"
	"inlay/maps"
	"inlay/ops"
	"inlay/runs"
	"inlay/sig"
	"inlay/tree"
)

// number tells what the chapters say that a number is laid as.
func number(n uint64) []byte {
	var b []byte
	for ; n >= 128; n /= 128 {
		b = append(b, byte(n%128)+128)
	}
	return append(b, byte(n))
}

// signed tells what the chapters say that a number with a sign is laid as.
func signed(n int) []byte {
	if n < 0 {
		return number(uint64(-(n+1))*2 + 1)
	}
	return number(uint64(n) * 2)
}

// token is a number as bytes, or other bytes, in a part of what is laid.
type token struct {
	part int
	b    []byte
	num  bool
}

// The parts of what is laid, in their order.
const (
	title = iota
	marks
	outer
	params
	results
	locals
	count
	code
	table
	nodes
	at
	live
	partsInAll
)

// tokens tells of what f is laid, as the chapters say, number by number.
func tokens(f api.Func) []token {
	var l []token
	part := 0
	raw := func(b ...byte) { l = append(l, token{part, b, false}) }
	num := func(n int) { l = append(l, token{part, number(uint64(n)), true}) }
	sign := func(n int) { l = append(l, token{part, signed(n), true}) }
	many := func(k int, list types) {
		part = k
		num(len(list))
		for _, t := range list {
			raw(byte(t))
		}
	}
	row := func(k int, list []int) {
		part = k
		for from := 0; from < len(list); {
			to := from + 1
			for to < len(list) && list[to] == list[from] {
				to++
			}
			num(to - from)
			sign(list[from])
			from = to
		}
	}
	num(len(f.Name))
	raw([]byte(f.Name)...)
	part = marks
	var mark byte
	if f.Inner {
		mark = 1
	}
	if len(f.Nodes) > 0 {
		mark += 2
	}
	raw(mark)
	if f.Inner {
		many(outer, f.Outer)
	}
	many(params, f.Params)
	many(results, f.Results)
	many(locals, f.Locals)
	part = count
	num(len(f.Code))
	part = code
	for _, i := range f.Code {
		raw(byte(i.Op))
		if ops.Operand(i.Op) != ops.None {
			sign(i.A)
		}
	}
	row(table, f.Lines)
	if len(f.Nodes) == 0 {
		return l
	}
	part = nodes
	num(len(f.Nodes))
	for _, x := range f.Nodes {
		for _, n := range []int{x.Parent, x.Func, x.Line, x.From, x.Args, x.To, x.Resume} {
			sign(n)
		}
	}
	row(at, f.At)
	part = live
	for from := 0; from < len(f.Live); {
		to := from + 1
		for to < len(f.Live) && f.Live[to] == f.Live[from] {
			to++
		}
		num(to - from)
		for _, word := range f.Live[from] {
			l = append(l, token{part, number(word), true})
		}
		from = to
	}
	return l
}

// together tells the bytes of tokens.
func together(l []token) []byte {
	var b []byte
	for _, x := range l {
		b = append(b, x.b...)
	}
	return b
}

// laid tells what the chapter says that Put lays of f, which can be laid.
func laid(f api.Func) []byte {
	return together(tokens(f))
}

// parts tells what f is laid as, part by part.
func parts(f api.Func) [partsInAll][]byte {
	var l [partsInAll][]byte
	for _, x := range tokens(f) {
		l[x.part] = append(l[x.part], x.b...)
	}
	return l
}

// taken tells what the chapter says that Take answers: the function, how many bytes it has, and the error.
func taken(b []byte) (api.Func, int, api.Errno) {
	c := cursor.New(b)
	must := func(ok bool, err api.Errno) {
		if !ok {
			c.Fail(err) // the first one stays
		}
	}
	var f api.Func
	f.Name = c.Text(12)
	must(named.MatchString(f.Name), api.ErrName)
	mark := c.Byte()
	must(mark <= 3, api.ErrForm)
	if mark%2 == 1 {
		f.Inner = true
		f.Outer = sig.Take(c, 4)
	}
	f.Params = sig.Take(c, 8)
	f.Results = sig.Take(c, 4)
	f.Locals = sig.Take(c, 256)
	must(slotsOf(f) <= 256, api.ErrMany)
	n := c.Num(2000)
	must(n > 0, api.ErrMany)
	for range n {
		f.Code = append(f.Code, instr.Take(c))
	}
	f.Lines = lines.Take(c, n)
	if mark >= 2 {
		f.Nodes = tree.Take(c)
		f.At = runs.Take(c, n, 0, len(f.Nodes)-1)
		f.Live = maps.Take(c, n, slotsOf(f))
	}
	if err := c.Err(); err != api.OK {
		return api.Func{}, 0, err
	}
	return f, len(b) - c.Left(), api.OK
}

// joined tells bytes one behind the other.
func joined(parts ...[]byte) []byte {
	return bytes.Join(parts, nil)
}

// filled tells k bytes c, and others behind them.
func filled(k int, c byte, behind ...byte) []byte {
	return append(bytes.Repeat([]byte{c}, k), behind...)
}

// are holds bytes against what they should be.
func are(t *testing.T, what string, got, want []byte) {
	t.Helper()
	if !bytes.Equal(got, want) {
		t.Errorf("%s: %d bytes %v, want %d bytes %v", what, len(got), short(got), len(want), short(want))
	}
}

// short tells as much of bytes as may be shown.
func short(b []byte) []byte {
	return b[:min(len(b), 60)]
}

// takes holds what Take tells of b against what it should: behind an error nothing is left.
func takes(t *testing.T, what string, b []byte, want api.Func, size int, err api.Errno) {
	t.Helper()
	c := cursor.New(b)
	got := fnc.Take(c)
	left := len(b) - size
	if err != api.OK {
		left = 0
	}
	if !same(got, want) || c.Err() != err || c.Left() != left {
		t.Errorf("%s: Take of %v: %s, error %d, %d left, want %s, error %d, %d left", what, short(b), show(got), c.Err(), c.Left(), show(want), err, left)
	}
}

// fails holds that Take tells an error of b, and nothing beside it.
func fails(t *testing.T, what string, b []byte, err api.Errno) {
	t.Helper()
	takes(t, what, b, api.Func{}, 0, err)
}

// takesAs holds what Take tells of b against the chapter.
func takesAs(t *testing.T, what string, b []byte) {
	t.Helper()
	want, size, err := taken(b)
	takes(t, what, b, want, size, err)
}

func TestPutOfNamedFunctions(t *testing.T) { // P15.2
	inner, outer, both := plain(), plain(), tabled(plain())
	inner.Inner = true
	outer.Inner, outer.Outer = true, types{api.Cx, api.Int}
	both.Inner = true
	some := plain()
	some.Params, some.Results, some.Locals = types{api.Int, api.Cx}, types{api.Cx}, types{api.Cx, api.Int, api.Int}
	for name, x := range map[string]struct {
		f    api.Func
		want []byte
	}{
		"plain":            {plain(), []byte{1, 102, 0, 0, 0, 0, 1, 25, 1, 2}},
		"Inner":            {inner, []byte{1, 102, 1, 0, 0, 0, 0, 1, 25, 1, 2}},
		"Outer":            {outer, []byte{1, 102, 1, 2, 2, 1, 0, 0, 0, 1, 25, 1, 2}},
		"tables":           {tabled(plain()), []byte{1, 102, 2, 0, 0, 0, 1, 25, 1, 2, 1, 1, 0, 0, 0, 0, 0, 0, 1, 0, 1, 0, 0, 0, 0}},
		"Inner and tables": {both, []byte{1, 102, 3, 0, 0, 0, 0, 1, 25, 1, 2, 1, 1, 0, 0, 0, 0, 0, 0, 1, 0, 1, 0, 0, 0, 0}},
		"types":            {some, []byte{1, 102, 0, 2, 1, 2, 1, 2, 3, 2, 1, 1, 1, 25, 1, 2}},
		"300 instructions": {coded(plain(), 300), joined([]byte{1, 102, 0, 0, 0, 0, 172, 2}, filled(300, 25), []byte{172, 2, 6})},
		"whole":            {whole(), wholeBytes()},
	} {
		are(t, name+", behind nothing", fnc.Put(nil, x.f), x.want)
		are(t, name+", behind an empty list", fnc.Put([]byte{}, x.f), x.want)
		are(t, name+", behind bytes", fnc.Put([]byte{7, 0, 255}, x.f), joined([]byte{7, 0, 255}, x.want))
		takes(t, name, x.want, x.f, len(x.want), api.OK)
	}
}

func TestPutOfMany(t *testing.T) { // P15.2
	for name, f := range many() {
		are(t, name+", behind nothing", fnc.Put(nil, f), laid(f))
		are(t, name+", behind bytes", fnc.Put([]byte{1, 0, 200}, f), joined([]byte{1, 0, 200}, laid(f)))
		are(t, name+", other things behind its lists' ends", fnc.Put(nil, roomy(f, 2)), laid(f))
	}
}

func TestPutOfEmptyLists(t *testing.T) { // P15.2: an empty list is as none
	f := plain()
	f.Outer, f.Params, f.Results, f.Locals = types{}, types{}, types{}, types{}
	f.Nodes, f.At, f.Live = []api.Node{}, []int{}, []api.Set{}
	are(t, "empty lists", fnc.Put(nil, f), []byte{1, 102, 0, 0, 0, 0, 1, 25, 1, 2})
}

func TestPutOfWhatCannotBeLaid(t *testing.T) { // P15.2: for each of the reasons
	for name, f := range wrongs() {
		are(t, name+", behind nothing", fnc.Put(nil, f), nil)
		are(t, name+", behind an empty list", fnc.Put([]byte{}, f), nil)
		are(t, name+", behind bytes", fnc.Put([]byte{1, 2, 0}, f), []byte{1, 2, 0})
		all := filled(400, 77)
		are(t, name+", behind a list with room", fnc.Put(all[:5], f), filled(5, 77))
		are(t, name+", the room", all, filled(400, 77))
	}
}

func TestPutBehindAListWithRoom(t *testing.T) { // P15.2, R3: bytes behind the list's end stay, but where Put lays its own
	for name, f := range few() {
		want := laid(f)
		for room := range len(want) + 12 {
			all := filled(3+room, 77)
			b := all[:3]
			are(t, name, fnc.Put(b, f), joined(filled(3, 77), want))
			are(t, name+", what was handed in", b, filled(3, 77))
			if room < len(want) { // they do not fit: all of it is as it was
				are(t, name+", the room that is too small", all, filled(3+room, 77))
			} else {
				are(t, name+", what is behind", all[3+len(want):], filled(room-len(want), 77))
			}
		}
	}
}

func TestPutKeepsNothing(t *testing.T) { // P15.2, R3
	f := whole()
	b := fnc.Put(nil, f)
	for _, x := range lists() {
		x.over(f)
	}
	are(t, "behind a change of the function", b, wholeBytes())
	other := fnc.Put(nil, whole())
	fill(b[:cap(b)], 99)
	are(t, "another answer", other, wholeBytes())
	are(t, "a later answer", fnc.Put(nil, whole()), wholeBytes())
}

func TestWhatIsLaidIsTaken(t *testing.T) { // P15.3
	var all []byte
	var in []api.Func
	for name, f := range many() {
		b := fnc.Put(nil, f)
		takes(t, name, b, f, len(b), api.OK)
		takes(t, name+", bytes behind", joined(b, []byte{0, 255, 1}), f, len(b), api.OK)
		if c := cursor.New(b); !fnc.Same(fnc.Take(c), f) || c.End() != api.OK {
			t.Errorf("%s: Same of what was laid and what was taken: false, or error %d", name, c.End())
		}
		are(t, name+", laid again", fnc.Put(nil, fnc.Take(cursor.New(b))), b)
		all = fnc.Put(all, f)
		in = append(in, f)
	}
	c := cursor.New(all)
	for _, f := range in {
		holds(t, "one behind the other", fnc.Take(c), f)
	}
	if err := c.End(); err != api.OK {
		t.Errorf("behind all: error %d, %d left", err, c.Left())
	}
}

func TestWhatCannotBeLaidIsNotTaken(t *testing.T) { // P15.2, P15.3: all that is taken can be laid
	for name, f := range few() {
		for _, x := range faults() {
			g := f
			x.make(&g)
			b := laid(g)
			takesAs(t, name+": "+x.name, b)
			if got := fnc.Take(cursor.New(b)); !same(got, api.Func{}) && fnc.Can(got) != api.OK {
				t.Errorf("%s: %s: Take of %v: %s, which can't be laid", name, x.name, short(b), show(got))
			}
		}
	}
}

func TestTakeLeavesWhatIsBehind(t *testing.T) { // P15.2
	c := cursor.New(joined(wholeBytes(), []byte{77}, laid(plain()), []byte{172, 2}, wholeBytes()))
	holds(t, "the first", fnc.Take(c), whole())
	if got := c.Byte(); got != 77 {
		t.Errorf("the byte behind it: %d, want 77", got)
	}
	holds(t, "the second", fnc.Take(c), plain())
	if got := c.Num(300); got != 300 {
		t.Errorf("the number behind it: %d, want 300", got)
	}
	holds(t, "the third", fnc.Take(c), whole())
	if c.End() != api.OK {
		t.Errorf("behind all: error %d, %d left", c.End(), c.Left())
	}
	holds(t, "behind the end", fnc.Take(c), api.Func{})
	if c.Err() != api.ErrShort {
		t.Errorf("behind the end: error %d", c.Err())
	}
}

func TestTakeOfCutBytes(t *testing.T) { // P15.2: no bytes, and bytes cut off at every place
	fails(t, "nil", nil, api.ErrShort)
	fails(t, "empty", []byte{}, api.ErrShort)
	for name, f := range few() {
		b := laid(f)
		for size := range b {
			fails(t, fmt.Sprintf("%s, cut at %d", name, size), b[:size], api.ErrShort)
		}
	}
	for _, f := range []api.Func{coded(whole(), 300), typed(tabled(plain()), 0, 8, 4, 244)} {
		b := laid(f)
		for size := range b {
			fails(t, fmt.Sprintf("cut at %d", size), b[:size], api.ErrShort)
		}
	}
}

func TestTakeOfTheByteBehindTheName(t *testing.T) { // P15.2
	for name, f := range few() {
		l := parts(f)
		for mark := range 256 {
			l[marks] = []byte{byte(mark)}
			b := joined(l[:]...)
			takesAs(t, fmt.Sprint(name, ", byte ", mark), b)
			if mark > 3 {
				fails(t, fmt.Sprint(name, ", byte ", mark), b, api.ErrForm)
				fails(t, fmt.Sprint(name, ", byte ", mark, ", none behind"), joined(l[title], l[marks]), api.ErrForm)
			}
		}
	}
	inner, both := plain(), tabled(plain())
	inner.Inner, both.Inner = true, true
	inner.Outer = types{api.Cx}
	head, lists, tables := []byte{1, 'f'}, []byte{0, 0, 0, 1, 25, 1, 2}, []byte{1, 1, 0, 0, 0, 0, 0, 0, 1, 0, 1, 0, 0, 0, 0}
	takes(t, "0", joined(head, []byte{0}, lists, tables), plain(), 10, api.OK) // the tables are behind it
	takes(t, "1", joined(head, []byte{1, 1, 2}, lists, tables), inner, 12, api.OK)
	takes(t, "2", joined(head, []byte{2}, lists, tables), tabled(plain()), 25, api.OK)
	takes(t, "3", joined(head, []byte{3, 0}, lists, tables), both, 26, api.OK)
	fails(t, "2, no tables", joined(head, []byte{2}, lists), api.ErrShort)
	fails(t, "2, no nodes", joined(head, []byte{2}, lists, []byte{0}), api.ErrTable)
	fails(t, "3, no nodes", joined(head, []byte{3, 0}, lists, []byte{0, 1, 0, 1, 0, 0, 0, 0}), api.ErrTable)
	for _, mark := range []byte{4, 5, 6, 7, 8, 128, 129, 131, 254, 255} {
		fails(t, fmt.Sprint(mark), joined(head, []byte{mark}, lists, tables), api.ErrForm)
	}
}

func TestTakeOfANumberThatIsNone(t *testing.T) { // P15.2: each number too long, or not the shortest
	for name, f := range few() {
		l := tokens(f)
		for k, x := range l {
			if !x.num {
				continue
			}
			for _, wrong := range []struct {
				b   []byte
				err api.Errno
			}{
				{append(with(x.b, len(x.b)-1, x.b[len(x.b)-1]|128), 0), api.ErrLong},
				{append(with(x.b, len(x.b)-1, x.b[len(x.b)-1]|128), 128, 0), api.ErrLong},
				{[]byte{128, 0}, api.ErrLong},
				{filled(9, 255, 0), api.ErrLong},
				{filled(9, 255, 2), api.ErrForm},
				{filled(9, 128, 128), api.ErrForm},
				{filled(11, 255, 0), api.ErrForm},
			} {
				m := with(l, k, token{x.part, wrong.b, true})
				fails(t, fmt.Sprintf("%s: number %d as %v", name, k, wrong.b), together(m), wrong.err)
				fails(t, fmt.Sprintf("%s: number %d as %v, and the end", name, k, wrong.b), together(m[:k+1]), wrong.err)
			}
			for _, other := range []uint64{0, 1, 2, 1 << 32, 1<<63 - 1, 1 << 63, 1<<64 - 2, 1<<64 - 1} { // a number that is one, but another
				takesAs(t, fmt.Sprintf("%s: number %d as %d", name, k, other), together(with(l, k, token{x.part, number(other), true})))
			}
		}
	}
}

// brokenParts tells of each part of whole what may stand there instead, and which error that is.
func brokenParts() [partsInAll][]struct {
	b   []byte
	err api.Errno
} {
	all := parts(whole())
	behind := func(b []byte, rest ...byte) []byte { return joined(b, rest) }
	text := func(s string) []byte { return append(number(uint64(len(s))), s...) }
	six := func(k int, wrong ...byte) []byte { // six instructions, of which one is wrong
		return joined(filled(k, 25), wrong, filled(5-k, 25))
	}
	return [partsInAll][]struct {
		b   []byte
		err api.Errno
	}{
		title: {
			{text(""), api.ErrName}, {text("A"), api.ErrName}, {text("0a"), api.ErrName}, {text("_"), api.ErrName}, {text("a b"), api.ErrName}, {text("\x00"), api.ErrName},
			{text("é"), api.ErrName}, {text("abcdefghijk-"), api.ErrName}, {text("ABCDEFGHIJKL"), api.ErrName},
			{text("abcdefghijklm"), api.ErrMany}, {text("ABCDEFGHIJKLM"), api.ErrMany}, {[]byte{255, 1}, api.ErrMany}, {number(1<<64 - 1), api.ErrMany}, {[]byte{134, 0, 'a', 'a', 'a', 'a', 'a', 'a'}, api.ErrLong},
		},
		marks: {{[]byte{4}, api.ErrForm}, {[]byte{7}, api.ErrForm}, {[]byte{131}, api.ErrForm}, {[]byte{255}, api.ErrForm}},
		outer: {
			{[]byte{5, 1, 1, 1, 1, 1}, api.ErrMany}, {[]byte{5, 3, 1, 1, 1, 1}, api.ErrMany}, {number(1 << 40), api.ErrMany}, {[]byte{130, 0, 1, 1}, api.ErrLong},
			{[]byte{1, 0}, api.ErrType}, {[]byte{2, 3, 1}, api.ErrType}, {[]byte{3, 1, 255, 1}, api.ErrType}, {[]byte{4, 1, 2, 1, 129}, api.ErrType},
		},
		params: {
			{behind(filled(1, 9), filled(9, 1)...), api.ErrMany}, {number(257), api.ErrMany}, {[]byte{128, 0}, api.ErrLong},
			{[]byte{1, 0}, api.ErrType}, {[]byte{3, 3, 1, 1}, api.ErrType}, {[]byte{3, 1, 4, 1}, api.ErrType}, {[]byte{8, 1, 1, 1, 1, 1, 1, 1, 0}, api.ErrType},
		},
		results: {
			{[]byte{5, 1, 1, 1, 1, 1}, api.ErrMany}, {[]byte{8, 1, 1, 1, 1, 1, 1, 1, 1}, api.ErrMany}, {[]byte{128, 0}, api.ErrLong},
			{[]byte{1, 0}, api.ErrType}, {[]byte{4, 3, 1, 1, 1}, api.ErrType}, {[]byte{4, 1, 1, 200, 1}, api.ErrType}, {[]byte{4, 1, 1, 1, 3}, api.ErrType},
		},
		locals: {
			{behind(number(257), filled(257, 1)...), api.ErrMany}, {number(1 << 63), api.ErrMany}, {[]byte{128, 0}, api.ErrLong}, {[]byte{1, 0}, api.ErrType}, {behind(number(252), filled(251, 1, 3)...), api.ErrType},
			{behind(number(256), filled(255, 1, 0)...), api.ErrType}, // and it is more than 256 slots
			{behind(number(253), filled(253, 1)...), api.ErrMany}, {behind(number(254), filled(254, 2)...), api.ErrMany}, {behind(number(256), filled(256, 2)...), api.ErrMany},
		},
		count: {{[]byte{0}, api.ErrMany}, {number(2001), api.ErrMany}, {number(1<<64 - 1), api.ErrMany}, {[]byte{128, 0}, api.ErrLong}, {[]byte{134, 0}, api.ErrLong}},
		code: {
			{six(0, 35), api.ErrOp}, {six(2, 35), api.ErrOp}, {six(5, 255), api.ErrOp}, {six(0, 2, 1), api.ErrArg}, {six(3, 2, 128, 4), api.ErrArg}, {six(5, 21, 160, 31), api.ErrArg},
			{six(1, 33, 240, 1), api.ErrArg}, {six(4, 1, 128, 0), api.ErrLong}, {six(5, 23, 80), api.ErrArg}, {six(5, 28, 8), api.ErrArg}, {six(0, 1, 255, 255, 255, 255, 255, 255, 255, 255, 255, 2), api.ErrForm},
		},
		table: {
			{[]byte{0, 14}, api.ErrForm}, {[]byte{7, 14}, api.ErrForm}, {[]byte{3, 14, 4, 16}, api.ErrForm}, {[]byte{3, 14, 3, 14}, api.ErrForm}, {[]byte{6, 1}, api.ErrArg}, {[]byte{5, 14, 1, 1}, api.ErrArg},
			{[]byte{6, 128, 128, 8}, api.ErrArg}, {[]byte{5, 14, 1, 128, 128, 8}, api.ErrArg}, {[]byte{134, 0, 14}, api.ErrLong}, {[]byte{6, 142, 0}, api.ErrLong},
		},
		nodes: {
			{[]byte{0}, api.ErrTable}, {[]byte{121}, api.ErrMany}, {number(1 << 50), api.ErrMany}, {[]byte{129, 0}, api.ErrLong}, {[]byte{1, 0, 0, 0, 0, 0, 0, 0}, api.ErrTable},
			{[]byte{1, 1, 80, 0, 0, 0, 0, 0}, api.ErrTable}, {[]byte{1, 1, 0, 2, 0, 0, 0, 0}, api.ErrTable}, {[]byte{2, 1, 0, 0, 0, 0, 0, 0, 1, 0, 0, 0, 0, 0, 2}, api.ErrTable},
			{[]byte{2, 1, 0, 0, 0, 0, 0, 0, 2, 0, 0, 0, 0, 0, 2}, api.ErrTable}, {[]byte{1, 129, 0}, api.ErrLong},
		},
		at: {
			{[]byte{6, 1}, api.ErrArg}, {[]byte{6, 4}, api.ErrArg}, {[]byte{1, 1, 5, 0}, api.ErrArg}, {[]byte{5, 0, 1, 4}, api.ErrArg}, {[]byte{2, 0, 1, 1, 3, 0}, api.ErrArg}, {[]byte{2, 0, 1, 240, 1}, api.ErrArg},
			{[]byte{0, 0}, api.ErrForm}, {[]byte{7, 0}, api.ErrForm}, {[]byte{3, 0, 3, 0}, api.ErrForm}, {[]byte{5, 0, 2, 2}, api.ErrForm}, {[]byte{134, 0, 0}, api.ErrLong}, {append([]byte{6}, number(1<<64-1)...), api.ErrArg},
		},
		live: {
			{[]byte{6, 64, 0, 0, 0}, api.ErrTable}, {[]byte{6, 128, 1, 0, 0, 0}, api.ErrTable}, {[]byte{6, 0, 1, 0, 0}, api.ErrTable}, {append([]byte{6, 0, 0, 0}, number(1<<63)...), api.ErrTable},
			{[]byte{1, 64, 0, 0, 0, 5, 0, 0, 0, 0}, api.ErrTable}, {[]byte{5, 0, 0, 0, 0, 1, 64, 0, 0, 0}, api.ErrTable},
			{[]byte{0, 0, 0, 0, 0}, api.ErrForm}, {[]byte{7, 0, 0, 0, 0}, api.ErrForm}, {[]byte{3, 0, 0, 0, 0, 3, 0, 0, 0, 0}, api.ErrForm}, {[]byte{6, 128, 0}, api.ErrLong}, {all[live][:len(all[live])-1], api.ErrShort},
		},
	}
}

func TestTakeOfABrokenPart(t *testing.T) { // P15.2
	whole := parts(whole())
	for part, l := range brokenParts() {
		for _, x := range l {
			b := whole
			b[part] = x.b
			fails(t, fmt.Sprintf("part %d as %v", part, short(x.b)), joined(b[:]...), x.err)
			fails(t, fmt.Sprintf("part %d as %v, and the end", part, short(x.b)), joined(b[:part+1]...), x.err)
		}
	}
}

func TestTakeTellsTheErrorOfTheFirstPart(t *testing.T) { // P15.2, R2: of two parts that are wrong
	whole := parts(whole())
	all := brokenParts()
	for first, l := range all {
		for _, x := range l {
			for second := first + 1; second < len(all); second++ {
				for _, y := range all[second] {
					b := whole
					b[first], b[second] = x.b, y.b
					fails(t, fmt.Sprintf("part %d as %v, %d as %v", first, short(x.b), second, short(y.b)), joined(b[:]...), x.err)
				}
			}
		}
	}
}

func TestTakeOfNames(t *testing.T) { // P15.2
	rest := laid(plain())[2:]
	for s, err := range map[string]api.Errno{
		"a": api.OK, "abcdefghijkl": api.OK, "z_9": api.OK, "a23456789012": api.OK,
		"": api.ErrName, "A": api.ErrName, "1": api.ErrName, "_a": api.ErrName, "abcdefghijkL": api.ErrName, "a\n": api.ErrName, "a\xff": api.ErrName, "zé": api.ErrName,
		"abcdefghijklm": api.ErrMany, "a234567890123": api.ErrMany, "ABCDEFGHIJKLM": api.ErrMany,
	} {
		b := joined(number(uint64(len(s))), []byte(s), rest)
		if err != api.OK {
			fails(t, s, b, err)
			fails(t, s+", and the end", b[:len(b)-len(rest)], err)
			continue
		}
		f := plain()
		f.Name = s
		takes(t, s, b, f, len(b), api.OK)
	}
	fails(t, "a name that may not be, cut off", []byte{3, 'A', 'B'}, api.ErrShort)
	fails(t, "no name, and the end", []byte{0}, api.ErrName)
}

func TestTakeOfHowManySlots(t *testing.T) { // P15.2: behind Locals
	for _, all := range []int{0, 1, 254, 255, 256, 257, 258, 268} {
		for params := range 9 {
			for results := range 5 {
				rest := all - params - results
				if rest < 0 || rest > 256 {
					continue
				}
				for _, outer := range []int{0, 4} {
					f := typed(plain(), outer, params, results, rest)
					what := fmt.Sprintf("slots %d+%d+%d, Outer %d", params, results, rest, outer)
					b := laid(f)
					if all <= 256 {
						takes(t, what, b, f, len(b), api.OK)
						continue
					}
					fails(t, what, b, api.ErrMany)
					l := parts(f)
					fails(t, what+", and the end", joined(l[:locals+1]...), api.ErrMany)
				}
			}
		}
	}
	l := parts(typed(plain(), 0, 8, 4, 245))
	head := joined(l[:locals+1]...)
	fails(t, "257 slots, and the end", head, api.ErrMany)
	fails(t, "257 slots, no instruction", append(head, 0), api.ErrMany)
	fails(t, "257 slots, a number too long", append(head, 128, 0), api.ErrMany)
	fails(t, "257 slots, the last one cut off", head[:len(head)-1], api.ErrShort)
	fails(t, "257 slots, the last one is none", with(head, len(head)-1, 3), api.ErrType)
}

func TestTakeOfHowManyInstructions(t *testing.T) { // P15.2
	for _, n := range []int{0, 1, 2, 127, 128, 1999, 2000, 2001, 2002, 4000} {
		for name, f := range few() {
			f = coded(f, n)
			b := laid(f)
			what := fmt.Sprint(name, ", instructions ", n)
			if n >= 1 && n <= 2000 {
				takes(t, what, b, f, len(b), api.OK)
				continue
			}
			fails(t, what, b, api.ErrMany)
			l := parts(f)
			fails(t, what+", and the end", joined(l[:count+1]...), api.ErrMany) // behind how many there are, whatever follows
		}
	}
}

func TestTakeOfASlotOfLive(t *testing.T) { // P15.2: the slot just below how many slots there are, that number itself, one beyond
	for _, x := range [][3]int{{0, 0, 0}, {1, 0, 0}, {0, 1, 0}, {0, 0, 1}, {3, 1, 2}, {8, 4, 51}, {8, 4, 52}, {8, 4, 243}, {0, 0, 255}, {8, 4, 244}} {
		slots := x[0] + x[1] + x[2]
		for _, place := range []int{0, 2, 4} {
			for _, slot := range []int{0, slots - 1, slots, slots + 1, 255} {
				if slot < 0 || slot > 255 {
					continue
				}
				f := typed(coded(whole(), 5), 4, x[0], x[1], x[2])
				f.Live[place] = set(slot)
				b := laid(f)
				if what := fmt.Sprintf("slots %v, slot %d at %d", x, slot, place); slot < slots {
					takes(t, what, b, f, len(b), api.OK)
				} else {
					fails(t, what, b, api.ErrTable)
				}
			}
		}
	}
}

func TestTakeOfANodeOfAt(t *testing.T) { // P15.2: below 0, 0, the last node, and above it
	for _, nodes := range []int{1, 2, 3, 119, 120} {
		for _, place := range []int{0, 2, 4} {
			for _, node := range []int{least, -2, -1, 0, nodes - 1, nodes, nodes + 1, 120, greatest} {
				f := coded(whole(), 5)
				f.Nodes, f.At[place] = chain(nodes), node
				b := laid(f)
				if what := fmt.Sprintf("%d nodes, %d at %d", nodes, node, place); node >= 0 && node < nodes {
					takes(t, what, b, f, len(b), api.OK)
				} else {
					fails(t, what, b, api.ErrArg)
				}
			}
		}
	}
}

func TestTakeOfAByteChanged(t *testing.T) { // P15.2
	for name, f := range few() {
		b := laid(f)
		for k := range b {
			for x := range 256 {
				takesAs(t, name, with(b, k, byte(x)))
			}
		}
	}
}

func TestTakeOfAByteMoreAndOneFewer(t *testing.T) { // P15.2
	for name, f := range few() {
		b := laid(f)
		for k := range b {
			takesAs(t, name, slices.Delete(slices.Clone(b), k, k+1))
			for _, x := range []byte{0, 1, 2, 3, 25, 34, 35, 127, 128, 255} {
				takesAs(t, name, slices.Insert(slices.Clone(b), k, x))
			}
		}
	}
}

func TestTakeOfAllShortBytes(t *testing.T) { // P15.2: of what may stand behind a name
	of := []byte{0, 1, 2, 25, 128}
	for size := range 8 {
		many := 1
		for range size {
			many *= len(of)
		}
		for n := range many {
			b := []byte{1, 'f'}
			for range size {
				b = append(b, of[n%len(of)])
				n /= len(of)
			}
			takesAs(t, "short", b)
		}
	}
}

func TestWhatIsTakenIsPut(t *testing.T) { // P15.2, P15.3: bytes that are taken are just those that are laid
	d := dice(7)
	held := 0
	for range 5000 {
		b := laid(d.function())
		for range d.roll(3) {
			b = with(b, d.roll(min(len(b), 1+d.roll(len(b)))), byte(d.roll(1+d.roll(256))))
		}
		takesAs(t, "changed", b)
		c := cursor.New(b)
		if f := fnc.Take(c); c.Err() == api.OK {
			held++
			are(t, "what was taken, laid again", fnc.Put(nil, f), b[:len(b)-c.Left()])
			if err := fnc.Can(f); err != api.OK {
				t.Errorf("Take of %v: %s, which can't be laid, error %d", short(b), show(f), err)
			}
		}
	}
	if held < 1000 || held > 4500 {
		t.Errorf("of 5000 bytes %d are a function's: too few of some kind to tell", held)
	}
}

func TestTakeBehindAnError(t *testing.T) { // P15.2, R2: the cursor's error stays
	for _, err := range []api.Errno{api.ErrMade, api.ErrArg, api.ErrShort, api.ErrLong, api.ErrForm, api.ErrMany, api.ErrName, api.ErrTable, api.ErrNone, 77, -1} {
		for _, b := range [][]byte{nil, {0}, {1, 'A'}, {1, 'f', 9}, laid(plain()), wholeBytes()} {
			c := cursor.New(b)
			c.Fail(err)
			for range 2 {
				if got := fnc.Take(c); !same(got, api.Func{}) || c.Err() != err || c.Left() != 0 || c.End() != err {
					t.Errorf("Take of %v behind error %d: %s, error %d, %d left", short(b), err, show(got), c.Err(), c.Left())
				}
			}
		}
	}
}

func TestTakeKeepsTheFirstError(t *testing.T) { // P15.2, R2: and takes nothing more
	whole := parts(whole())
	for part, l := range brokenParts() {
		for _, x := range l {
			b := whole
			b[part] = x.b
			c := cursor.New(joined(joined(b[:]...), laid(plain())))
			fnc.Take(c)
			err := c.Err()
			for range 3 {
				if got := fnc.Take(c); !same(got, api.Func{}) || c.Err() != err || c.Left() != 0 {
					t.Errorf("behind part %d as %v: %s, error %d, %d left, want error %d", part, short(x.b), show(got), c.Err(), c.Left(), err)
				}
			}
			c.Fail(api.ErrNone)
			if got := c.Byte(); got != 0 || c.Err() != err || c.End() != err {
				t.Errorf("behind part %d as %v: byte %d, error %d, want %d", part, short(x.b), got, c.Err(), err)
			}
		}
	}
}

func TestTakeOfACursorThatNoCallMade(t *testing.T) { // P15.2, R1, R5
	holds(t, "Take of nil", fnc.Take(nil), api.Func{})
	c := new(cursor.Cursor)
	for range 2 {
		holds(t, "Take of a zero cursor", fnc.Take(c), api.Func{})
		if c.Err() != api.ErrMade || c.End() != api.ErrMade || c.Left() != 0 {
			t.Errorf("Take of a zero cursor: error %d, %d left", c.Err(), c.Left())
		}
	}
}

func TestTakeTellsNewMemory(t *testing.T) { // P15.2, R3
	for name, f := range few() {
		b := laid(f)
		was := slices.Clone(b)
		alone(t, name+": Take", func() api.Func { return fnc.Take(cursor.New(b)) })
		for _, x := range lists() {
			first, second := fnc.Take(cursor.New(b)), fnc.Take(cursor.New(b))
			x.over(entire(first))
			holds(t, name+": another answer", second, f)
			holds(t, name+": a later answer", fnc.Take(cursor.New(b)), f)
		}
		are(t, name+": the bytes", b, was)
	}
	b := joined(wholeBytes(), wholeBytes())
	c := cursor.New(b)
	first := fnc.Take(c)
	fill(b, 0) // the bytes are as they were when the cursor was made
	for _, x := range lists() {
		x.over(entire(first))
	}
	holds(t, "the second of two", fnc.Take(c), whole())
}

func FuzzTake(f *testing.F) { // P15.2, P15.3, P1
	for _, x := range few() {
		f.Add(laid(x))
	}
	for _, l := range brokenParts() {
		for _, x := range l {
			f.Add(x.b)
		}
	}
	f.Fuzz(func(t *testing.T, b []byte) {
		was := slices.Clone(b)
		takesAs(t, "any", b)
		takesAs(t, "any, behind a name", joined([]byte{1, 'f'}, b))
		c := cursor.New(b)
		if f := fnc.Take(c); c.Err() == api.OK {
			are(t, "what was taken, laid again", fnc.Put(nil, f), b[:len(b)-c.Left()])
		}
		are(t, "what was handed in", b, was)
	})
}

func FuzzFunc(f *testing.F) { // P15.1 to P15.3, P1: any function, with any faults
	f.Add(uint64(1), []byte{})
	f.Add(uint64(15), []byte{0, 12, 20})
	f.Add(uint64(1<<40), []byte{30, 40, 44})
	all := faults()
	f.Fuzz(func(t *testing.T, seed uint64, with []byte) {
		d := dice(seed)
		f := d.function()
		for _, k := range with[:min(len(with), 8)] {
			all[int(k)%len(all)].make(&f)
		}
		was := clone(f)
		cans(t, "any", f, can(f))
		if got, want := fnc.Bare(f), len(f.Nodes)+len(f.At)+len(f.Live) == 0; got != want {
			t.Errorf("Bare of %s: %t", show(f), got)
		}
		if !fnc.Same(f, fnc.Copy(f)) || fnc.Same(f, whole()) != same(f, whole()) {
			t.Errorf("Same of %s and its copy, or whole", show(f))
		}
		if b := fnc.Put([]byte{1}, f); can(f) == api.OK {
			are(t, "Put", b[1:], laid(f))
			takes(t, "any", b[1:], f, len(b)-1, api.OK)
		}
		holds(t, "what was handed in", f, was)
	})
}
