package cursor_test

import (
	"bytes"
	"math"
	"slices"
	"strings"
	"testing"

	"inlay/api"
	"inlay/cursor"
	"inlay/uvar"
)

// laid tells numbers' bytes, one behind the other.
func laid(l ...uint64) []byte {
	var b []byte
	for _, n := range l {
		b = uvar.Put(b, n)
	}
	return b
}

// laidText tells a text's bytes: how long it is, and it.
func laidText(s string) []byte {
	return append(laid(uint64(len(s))), s...)
}

// filled tells k bytes c, and others behind them.
func filled(k int, c byte, behind ...byte) []byte {
	return append(bytes.Repeat([]byte{c}, k), behind...)
}

// stands holds what a cursor tells of itself against what is asked.
func stands(t *testing.T, what string, c *cursor.Cursor, err api.Errno, left int, end api.Errno) {
	t.Helper()
	if c.Err() != err || c.Left() != left || c.End() != end {
		t.Errorf("%s: error %d, left %d, end %d, want %d, %d, %d", what, c.Err(), c.Left(), c.End(), err, left, end)
	}
}

// stuck holds against the chapter that a cursor with an error tells nothing any more, and that its error stays.
func stuck(t *testing.T, what string, c *cursor.Cursor, err api.Errno) {
	t.Helper()
	calls := []func(){
		func() {
			if n := c.Num(math.MaxInt); n != 0 {
				t.Errorf("%s: behind the error Num tells %d", what, n)
			}
		},
		func() {
			if n := c.Num(-1); n != 0 {
				t.Errorf("%s: behind the error Num of most -1 tells %d", what, n)
			}
		},
		func() {
			if n := c.Int(); n != 0 {
				t.Errorf("%s: behind the error Int tells %d", what, n)
			}
		},
		func() {
			if n := c.Bits(); n != 0 {
				t.Errorf("%s: behind the error Bits tells %d", what, n)
			}
		},
		func() {
			if n := c.Byte(); n != 0 {
				t.Errorf("%s: behind the error Byte tells %d", what, n)
			}
		},
		func() {
			if s := c.Text(math.MaxInt); s != "" {
				t.Errorf("%s: behind the error Text tells %q", what, s)
			}
		},
		func() {
			if s := c.Text(-1); s != "" {
				t.Errorf("%s: behind the error Text of most -1 tells %q", what, s)
			}
		},
		func() { c.Fail(api.ErrTable) },
		func() { c.Fail(api.ErrMade) },
		func() { c.Fail(api.OK) },
	}
	for range 2 {
		for i, call := range calls {
			call()
			if c.Err() != err || c.Left() != 0 || c.End() != err {
				t.Errorf("%s: behind call %d error %d, left %d, end %d, want %d, 0, %d", what, i, c.Err(), c.Left(), c.End(), err, err)
			}
		}
	}
}

// broken tells bytes of which no number begins, and uvar's error of them.
func broken() []struct {
	b   []byte
	err api.Errno
} {
	return []struct {
		b   []byte
		err api.Errno
	}{
		{nil, api.ErrShort},
		{[]byte{}, api.ErrShort},
		{[]byte{128}, api.ErrShort},
		{filled(9, 255), api.ErrShort},
		{[]byte{128, 0}, api.ErrLong},
		{[]byte{128, 0, 1, 1}, api.ErrLong},
		{filled(9, 255, 0, 7), api.ErrLong},
		{filled(9, 255, 2), api.ErrForm},
		{filled(12, 255, 1), api.ErrForm},
	}
}

func TestExample(t *testing.T) {
	c := cursor.New([]byte{172, 2})
	if n := c.Num(300); n != 300 {
		t.Errorf("Num(300): %d", n)
	}
	if err := c.End(); err != api.OK {
		t.Errorf("End: %d", err)
	}
	if n := c.Num(0); n != 0 || c.Err() != api.ErrShort {
		t.Errorf("Num(0): %d, error %d", n, c.Err())
	}
}

func TestNumOfMost(t *testing.T) { // P2.1
	for _, x := range []struct {
		n    uint64
		most int
		err  api.Errno
	}{
		{0, 0, api.OK},
		{0, 1, api.OK},
		{1, 0, api.ErrMany},
		{1, 1, api.OK},
		{299, 300, api.OK},
		{300, 300, api.OK},
		{301, 300, api.ErrMany},
		{2000, 1999, api.ErrMany},
		{math.MaxInt - 1, math.MaxInt, api.OK},
		{math.MaxInt, math.MaxInt, api.OK},
		{math.MaxInt, math.MaxInt - 1, api.ErrMany},
		{math.MaxInt + 1, math.MaxInt, api.ErrMany},
		{math.MaxUint64, math.MaxInt, api.ErrMany},
		{math.MaxUint64, 0, api.ErrMany},
		{0, -1, api.ErrMany},
		{1, -1, api.ErrMany},
		{0, math.MinInt, api.ErrMany},
		{300, -300, api.ErrMany},
		{math.MaxInt + 1, math.MinInt, api.ErrMany},
		{math.MaxUint64, -1, api.ErrMany},
		{math.MaxUint64 - 299, -300, api.ErrMany},
	} {
		c := cursor.New(append(laid(x.n), 5, 6))
		got := c.Num(x.most)
		if x.err != api.OK {
			if got != 0 {
				t.Errorf("Num(%d) of %d: %d, want 0", x.most, x.n, got)
			}
			stands(t, "Num of too great a one", c, x.err, 0, x.err)
			continue
		}
		if got != int(x.n) {
			t.Errorf("Num(%d) of %d: %d", x.most, x.n, got)
		}
		stands(t, "Num", c, api.OK, 2, api.ErrLong)
		if next := c.Byte(); next != 5 {
			t.Errorf("behind Num(%d) of %d stands %d, want 5", x.most, x.n, next)
		}
	}
}

func TestNumOfManyAroundMost(t *testing.T) { // P2.1
	for n := range 1000 {
		for most := n - 2; most <= n+2; most++ {
			c := cursor.New(laid(uint64(n)))
			got, want, err := c.Num(most), n, api.OK
			if most < n {
				want, err = 0, api.ErrMany
			}
			if got != want || c.Err() != err {
				t.Fatalf("Num(%d) of %d: %d, error %d", most, n, got, c.Err())
			}
		}
	}
}

func TestNumbersOfBrokenBytes(t *testing.T) { // P2.1: uvar's error, ahead of any other
	for _, x := range broken() {
		for name, call := range map[string]func(c *cursor.Cursor) bool{
			"Num(MaxInt)":  func(c *cursor.Cursor) bool { return c.Num(math.MaxInt) == 0 },
			"Num(0)":       func(c *cursor.Cursor) bool { return c.Num(0) == 0 },
			"Num(-1)":      func(c *cursor.Cursor) bool { return c.Num(-1) == 0 },
			"Num(MinInt)":  func(c *cursor.Cursor) bool { return c.Num(math.MinInt) == 0 },
			"Int":          func(c *cursor.Cursor) bool { return c.Int() == 0 },
			"Bits":         func(c *cursor.Cursor) bool { return c.Bits() == 0 },
			"Text(MaxInt)": func(c *cursor.Cursor) bool { return c.Text(math.MaxInt) == "" },
			"Text(0)":      func(c *cursor.Cursor) bool { return c.Text(0) == "" },
			"Text(-1)":     func(c *cursor.Cursor) bool { return c.Text(-1) == "" },
		} {
			c := cursor.New(x.b)
			if !call(c) {
				t.Errorf("%s of %v tells something", name, x.b)
			}
			stands(t, name, c, x.err, 0, x.err)
			stuck(t, name, c, x.err)
		}
	}
}

func TestIntOfBothSigns(t *testing.T) { // P2.1
	for _, n := range []int{0, 1, -1, 63, -64, 64, -65, 300, -300, 65535, math.MaxInt, math.MaxInt - 1, math.MinInt, math.MinInt + 1} {
		c := cursor.New(append(uvar.PutInt(nil, n), 128))
		if got := c.Int(); got != n {
			t.Errorf("Int of %d: %d", n, got)
		}
		stands(t, "Int", c, api.OK, 1, api.ErrLong)
	}
}

func TestBitsOfEachSize(t *testing.T) { // P2.1
	l := []uint64{0, 1, 300, math.MaxInt, math.MaxInt + 1, math.MaxUint64 - 1, math.MaxUint64}
	for k := range 64 {
		l = append(l, 1<<k, 1<<k-1)
	}
	for _, n := range l {
		c := cursor.New(append(laid(n), 9))
		if got := c.Bits(); got != n {
			t.Errorf("Bits of %d: %d", n, got)
		}
		stands(t, "Bits", c, api.OK, 1, api.ErrLong)
	}
}

func TestByteOfEach(t *testing.T) { // P2.1
	var b []byte
	for k := range 256 {
		b = append(b, byte(k))
	}
	c := cursor.New(b)
	for k := range 256 {
		stands(t, "ahead of a byte", c, api.OK, 256-k, api.ErrLong)
		if got := c.Byte(); got != byte(k) {
			t.Errorf("Byte: %d, want %d", got, k)
		}
	}
	stands(t, "behind the last byte", c, api.OK, 0, api.OK)
	if got := c.Byte(); got != 0 {
		t.Errorf("Byte of none: %d", got)
	}
	stuck(t, "Byte of none", c, api.ErrShort)
}

func TestTextOfNamedBytes(t *testing.T) { // P2.1
	for _, x := range []struct {
		name string
		b    []byte
		most int
		want string
		err  api.Errno
		left int
	}{
		{"no byte left", nil, 5, "", api.ErrShort, 0},
		{"an empty text", []byte{0}, 5, "", api.OK, 0},
		{"an empty text of most 0", []byte{0, 7}, 0, "", api.OK, 1},
		{"as long as what is left", []byte{3, 'a', 'b', 'c'}, 5, "abc", api.OK, 0},
		{"one byte more is left", []byte{3, 'a', 'b', 'c', 'd'}, 5, "abc", api.OK, 1},
		{"one longer than what is left", []byte{4, 'a', 'b', 'c'}, 5, "", api.ErrShort, 0},
		{"of most itself", []byte{3, 'a', 'b', 'c'}, 3, "abc", api.OK, 0},
		{"one more than most", []byte{3, 'a', 'b', 'c'}, 2, "", api.ErrMany, 0},
		{"more than most, and than what is left", []byte{9, 'a'}, 2, "", api.ErrMany, 0},
		{"one of most 0", []byte{1, 'a'}, 0, "", api.ErrMany, 0},
		{"none left of one", []byte{1}, 1, "", api.ErrShort, 0},
		{"of most below 0", []byte{1, 'a'}, -1, "", api.ErrMany, 0},
		{"an empty one of most below 0", []byte{0}, math.MinInt, "", api.ErrMany, 0},
		{"as long as an int may be", append(laid(math.MaxInt), 'a'), math.MaxInt, "", api.ErrShort, 0},
		{"longer than an int may be", append(laid(math.MaxInt+1), 'a'), math.MaxInt, "", api.ErrMany, 0},
		{"of all lengths the greatest", append(laid(math.MaxUint64), 'a'), math.MaxInt, "", api.ErrMany, 0},
		{"bytes that are no runes", []byte{4, 0, 255, 128, 192, 1}, 4, "\x00\xff\x80\xc0", api.OK, 1},
		{"a length of no form", []byte{131, 0, 'a', 'b', 'c'}, 5, "", api.ErrLong, 0},
	} {
		c := cursor.New(x.b)
		if got := c.Text(x.most); got != x.want {
			t.Errorf("%s: Text(%d) of %v: %q, want %q", x.name, x.most, x.b, got, x.want)
		}
		end := x.err
		if x.left > 0 {
			end = api.ErrLong
		}
		stands(t, x.name, c, x.err, x.left, end)
		if x.err != api.OK {
			stuck(t, x.name, c, x.err)
		}
	}
}

func TestTextOfEachLength(t *testing.T) { // P2.1
	for size := range 300 {
		want := strings.Repeat("xyz", 100)[:size]
		b := append(laidText(want), 200, 201)
		c := cursor.New(b)
		if got := c.Text(size); got != want || c.Left() != 2 || c.Byte() != 200 {
			t.Errorf("Text(%d): %q, left %d", size, got, c.Left())
		}
		short := cursor.New(b[:len(b)-3])
		if got := short.Text(size); size > 0 && (got != "" || short.Err() != api.ErrShort) {
			t.Errorf("Text(%d) of a byte less: %q, error %d", size, got, short.Err())
		}
	}
}

func TestNewOfNothing(t *testing.T) { // P2.1, R3
	for _, b := range [][]byte{nil, {}} {
		c := cursor.New(b)
		stands(t, "a cursor ahead of nothing", c, api.OK, 0, api.OK)
		c.Byte()
		stuck(t, "a cursor ahead of nothing", c, api.ErrShort)
	}
}

func TestBytesAreAsTheyWere(t *testing.T) { // P2.1, R3
	b := append(laid(300), 3, 'a', 'b', 'c', 1, 77, 172, 2)
	c := cursor.New(b)
	clear(b)
	if n := c.Num(300); n != 300 {
		t.Errorf("Num: %d, want 300", n)
	}
	for i := range b {
		b[i] = 255
	}
	text, n, one, bits := c.Text(3), c.Int(), c.Byte(), c.Bits()
	if text != "abc" || n != -1 || one != 77 || bits != 300 {
		t.Errorf("Text %q, Int %d, Byte %d, Bits %d, want abc, -1, 77, 300", text, n, one, bits)
	}
	stands(t, "behind all", c, api.OK, 0, api.OK)
}

func TestTextsStayAsTheyWereTold(t *testing.T) { // R3
	b := append(laidText("abc"), laidText("def")...)
	c := cursor.New(b)
	first := c.Text(3)
	clear(b)
	if second := c.Text(3); first != "abc" || second != "def" {
		t.Errorf("%q, %q", first, second)
	}
}

func TestNothingHandedInIsChanged(t *testing.T) { // R3
	b := append(laid(300), 3, 'a', 'b', 'c', 1, 77, 172, 2, 50, 60)
	was := slices.Clone(b)
	c := cursor.New(b[:len(b)-2])
	c.Num(300)
	c.Text(3)
	c.Int()
	c.Byte()
	c.Bits()
	stands(t, "behind all", c, api.OK, 0, api.OK)
	c.Byte()
	c.Fail(api.ErrArg)
	if !bytes.Equal(b, was) {
		t.Errorf("%v became %v", was, b)
	}
}

func TestRoomBehindTheListIsNotRead(t *testing.T) { // P2.1
	b := []byte{172, 2, 3, 'a', 'b', 'c'}
	for k, want := range map[int]api.Errno{0: api.ErrShort, 1: api.ErrShort} {
		c := cursor.New(b[:k])
		if n := c.Num(300); n != 0 || c.Err() != want {
			t.Errorf("Num of %d bytes: %d, error %d", k, n, c.Err())
		}
	}
	c := cursor.New(b[2:5])
	if s := c.Text(3); s != "" || c.Err() != api.ErrShort {
		t.Errorf("Text of a byte less: %q, error %d", s, c.Err())
	}
}

func TestCursorsGoByThemselves(t *testing.T) { // P2.1, R3
	b := []byte{1, 2, 3}
	first, second := cursor.New(b), cursor.New(b)
	first.Byte()
	first.Byte()
	second.Fail(api.ErrJump)
	stands(t, "the first", first, api.OK, 1, api.ErrLong)
	stands(t, "the second", second, api.ErrJump, 0, api.ErrJump)
	if got := first.Byte(); got != 3 {
		t.Errorf("Byte: %d, want 3", got)
	}
}

func TestFirstErrorStays(t *testing.T) { // P2.2
	for name, x := range map[string]struct {
		wrong func(c *cursor.Cursor)
		err   api.Errno
	}{
		"ErrShort by Text":  {func(c *cursor.Cursor) { c.Text(300) }, api.ErrShort},
		"ErrMany by Num":    {func(c *cursor.Cursor) { c.Num(79) }, api.ErrMany},
		"ErrMany by Text":   {func(c *cursor.Cursor) { c.Text(79) }, api.ErrMany},
		"ErrMany of most":   {func(c *cursor.Cursor) { c.Num(-5) }, api.ErrMany},
		"ErrForm by Fail":   {func(c *cursor.Cursor) { c.Fail(api.ErrForm) }, api.ErrForm},
		"ErrMade by Fail":   {func(c *cursor.Cursor) { c.Fail(api.ErrMade) }, api.ErrMade},
		"ErrLong by Fail":   {func(c *cursor.Cursor) { c.Fail(api.ErrLong) }, api.ErrLong},
		"no api's, by Fail": {func(c *cursor.Cursor) { c.Fail(-7) }, -7},
	} {
		c := cursor.New([]byte{80, 1, 2, 3, 4, 5})
		x.wrong(c)
		stands(t, name, c, x.err, 0, x.err)
		stuck(t, name, c, x.err)
	}
}

func TestErrorInTheMidst(t *testing.T) { // P2.2
	c := cursor.New([]byte{1, 2, 128, 0, 4, 5})
	if c.Byte() != 1 || c.Int() != 1 {
		t.Errorf("what stands ahead of what is wrong was not told")
	}
	stands(t, "ahead of what is wrong", c, api.OK, 4, api.ErrLong)
	if n := c.Bits(); n != 0 {
		t.Errorf("Bits: %d", n)
	}
	stuck(t, "behind what is wrong", c, api.ErrLong)
}

func TestFailAheadOfAnError(t *testing.T) { // P2.2
	for e := api.Errno(1); e <= 20; e++ {
		c := cursor.New([]byte{1, 2, 3})
		c.Byte()
		c.Fail(e)
		stands(t, "behind Fail", c, e, 0, e)
		stuck(t, "behind Fail", c, e)
	}
	for _, e := range []api.Errno{-1, 21, math.MinInt, math.MaxInt} {
		c := cursor.New([]byte{1})
		c.Fail(e)
		stuck(t, "behind Fail of another number", c, e)
	}
}

func TestFailBehindAnError(t *testing.T) { // P2.2
	c := cursor.New(nil)
	c.Byte()
	for e := api.OK; e <= 20; e++ {
		c.Fail(e)
		stands(t, "behind Fail", c, api.ErrShort, 0, api.ErrShort)
	}
	c = cursor.New([]byte{1})
	c.Fail(api.ErrTable)
	c.Fail(api.ErrName)
	stands(t, "behind two Fails", c, api.ErrTable, 0, api.ErrTable)
}

func TestFailOfNoError(t *testing.T) { // P2.2
	c := cursor.New([]byte{7, 8})
	c.Fail(api.OK)
	stands(t, "behind Fail of OK", c, api.OK, 2, api.ErrLong)
	if got := c.Byte(); got != 7 {
		t.Errorf("Byte: %d, want 7", got)
	}
	c.Fail(api.OK)
	c.Fail(api.ErrOp)
	stands(t, "behind Fail of OK, and of another", c, api.ErrOp, 0, api.ErrOp)
}

func TestEndTellsAndChangesNothing(t *testing.T) { // P2.2
	c := cursor.New([]byte{7, 8})
	for range 3 {
		stands(t, "with bytes left", c, api.OK, 2, api.ErrLong)
	}
	if first, second := c.Byte(), c.Byte(); first != 7 || second != 8 {
		t.Errorf("behind End: %d, %d, want 7, 8", first, second)
	}
	for range 3 {
		stands(t, "with no byte left", c, api.OK, 0, api.OK)
	}
	c.Byte()
	stands(t, "behind one byte too many", c, api.ErrShort, 0, api.ErrShort)
}

func TestLeftCountsDown(t *testing.T) { // P2.2
	c := cursor.New(append(laid(300, 1, 1<<40), 2, 'a', 'b', 9))
	for _, x := range []struct {
		take func()
		left int
	}{
		{func() {}, 13},
		{func() { c.Num(300) }, 11},
		{func() { c.Int() }, 10},
		{func() { c.Bits() }, 4},
		{func() { c.Text(2) }, 1},
		{func() { c.Byte() }, 0},
	} {
		if x.take(); c.Left() != x.left {
			t.Errorf("left: %d, want %d", c.Left(), x.left)
		}
	}
	stands(t, "behind all", c, api.OK, 0, api.OK)
}

func TestCursorThatNoCallMade(t *testing.T) { // P2.2, R5
	var none *cursor.Cursor
	for name, c := range map[string]*cursor.Cursor{"nil": none, "zero": {}, "new": new(cursor.Cursor)} {
		stands(t, name, c, api.ErrMade, 0, api.ErrMade)
		stuck(t, name, c, api.ErrMade)
	}
	zero := &cursor.Cursor{}
	for e := api.OK; e <= 20; e++ {
		zero.Fail(e)
		none.Fail(e)
		stands(t, "zero, behind Fail", zero, api.ErrMade, 0, api.ErrMade)
		stands(t, "nil, behind Fail", none, api.ErrMade, 0, api.ErrMade)
	}
}

// dice tells numbers that look like any, the same ones each time.
type dice uint64

func (d *dice) roll(n int) int {
	*d = *d*6364136223846793005 + 1442695040888963407
	return int(*d >> 33 % dice(n))
}

// thing is something that is laid, and how it is taken again.
type thing struct {
	bytes []byte
	taken func(c *cursor.Cursor) bool
}

// anything tells a thing of any kind, of any size.
func anything(d *dice) thing {
	n := (uint64(d.roll(1<<30))<<34 ^ uint64(d.roll(1<<30))) >> d.roll(64)
	switch d.roll(5) {
	case 0:
		n >>= 1
		return thing{laid(n), func(c *cursor.Cursor) bool { return c.Num(int(n)) == int(n) }}
	case 1:
		return thing{uvar.PutInt(nil, int(n)), func(c *cursor.Cursor) bool { return c.Int() == int(n) }}
	case 2:
		return thing{uvar.PutInt(nil, -int(n)), func(c *cursor.Cursor) bool { return c.Int() == -int(n) }}
	case 3:
		return thing{[]byte{byte(n)}, func(c *cursor.Cursor) bool { return c.Byte() == byte(n) }}
	}
	if n%2 == 0 {
		return thing{laid(n), func(c *cursor.Cursor) bool { return c.Bits() == n }}
	}
	s := strings.Repeat(string([]byte{byte(n), byte(n >> 8)}), d.roll(90))
	return thing{laidText(s), func(c *cursor.Cursor) bool { return c.Text(200) == s }}
}

func TestWhatWasLaidIsTaken(t *testing.T) { // P2.3
	var d dice
	for range 2000 {
		var b []byte
		var l []thing
		for range d.roll(20) {
			x := anything(&d)
			b = append(b, x.bytes...)
			l = append(l, x)
		}
		c := cursor.New(b)
		left := len(b)
		for i, x := range l {
			if !x.taken(c) {
				t.Fatalf("thing %d of %v is told otherwise", i, b)
			}
			if left -= len(x.bytes); c.Left() != left {
				t.Fatalf("behind thing %d of %v are left %d, want %d", i, b, c.Left(), left)
			}
		}
		stands(t, "behind all", c, api.OK, 0, api.OK)
	}
}

func TestWhatWasCutShortIsNotTaken(t *testing.T) { // P2.3, P2.2
	d := dice(1)
	for range 2000 {
		ahead, x := anything(&d), anything(&d)
		for cut := range x.bytes {
			c := cursor.New(append(slices.Clone(ahead.bytes), x.bytes[:cut]...))
			if !ahead.taken(c) {
				t.Fatalf("what stands ahead is told otherwise: %v", ahead.bytes)
			}
			x.taken(c)
			stands(t, "cut short", c, api.ErrShort, 0, api.ErrShort)
		}
	}
}

// plain is the chapter, told once more: the bytes, where the next one stands, and the error.
type plain struct {
	b   []byte
	at  int
	err api.Errno
}

func (p *plain) fail(e api.Errno) {
	if p.err == api.OK {
		p.err = e
	}
}

func (p *plain) left() int {
	if p.err != api.OK {
		return 0
	}
	return len(p.b) - p.at
}

func (p *plain) end() api.Errno {
	if p.left() > 0 {
		return api.ErrLong
	}
	return p.err
}

func (p *plain) bits() uint64 {
	if p.err != api.OK {
		return 0
	}
	n, size, err := uvar.Get(p.b[p.at:])
	p.at += size
	p.fail(err)
	return n
}

func (p *plain) num(most int) int {
	n := p.bits()
	switch {
	case p.err != api.OK:
		return 0
	case most < 0, n > uint64(most):
		p.fail(api.ErrMany)
		return 0
	}
	return int(n)
}

func (p *plain) text(most int) string {
	size := p.num(most)
	if p.err == api.OK && size > p.left() {
		p.fail(api.ErrShort)
	}
	if p.err != api.OK {
		return ""
	}
	p.at += size
	return string(p.b[p.at-size : p.at])
}

func (p *plain) one() byte {
	if p.left() == 0 {
		p.fail(api.ErrShort)
		return 0
	}
	p.at++
	return p.b[p.at-1]
}

// together does the calls that a script's bytes name with both, and holds what they tell against each other.
func together(t *testing.T, b, script []byte) {
	t.Helper()
	c, p := cursor.New(b), &plain{b: b}
	for i, k := range script {
		most := []int{-1, 0, 1, 3, 127, 128, 300, math.MaxInt}[k/16%8]
		var alike bool
		switch k % 16 {
		case 0, 1, 2:
			alike = c.Num(most) == p.num(most)
		case 3, 4, 5:
			alike = c.Int() == uvar.Unfold(p.bits())
		case 6, 7:
			alike = c.Bits() == p.bits()
		case 8, 9, 10:
			alike = c.Byte() == p.one()
		case 15:
			c.Fail(api.Errno(k / 64))
			p.fail(api.Errno(k / 64))
			alike = true
		default:
			alike = c.Text(most) == p.text(most)
		}
		if !alike || c.Err() != p.err || c.Left() != p.left() || c.End() != p.end() {
			t.Fatalf("bytes %v, calls %v: call %d: alike %v, error %d, left %d, end %d, want %d, %d, %d",
				b, script, i, alike, c.Err(), c.Left(), c.End(), p.err, p.left(), p.end())
		}
	}
}

func TestManyCallsOfAnyBytes(t *testing.T) { // P2.1, P2.2
	d := dice(2)
	for range 20000 {
		b, script := make([]byte, d.roll(30)), make([]byte, d.roll(12))
		small := 2 + d.roll(255)
		for i := range b {
			b[i] = byte(d.roll(small))
		}
		for i := range script {
			script[i] = byte(d.roll(256))
		}
		together(t, b, script)
	}
}

func FuzzCalls(f *testing.F) { // P2.1, P2.2, P1
	f.Add([]byte{172, 2}, []byte{0x60, 0})
	f.Add([]byte{3, 'a', 'b', 'c', 128, 0}, []byte{0x3b, 6})
	f.Add(filled(12, 255), []byte{3, 8, 11})
	f.Fuzz(func(t *testing.T, b, script []byte) {
		was := slices.Clone(b)
		together(t, b, script)
		if !bytes.Equal(b, was) {
			t.Fatalf("%v became %v", was, b)
		}
	})
}
