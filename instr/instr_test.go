package instr_test

import (
	"bytes"
	"math"
	"math/big"
	"slices"
	"strings"
	"testing"

	"inlay/api"
	"inlay/cursor"
	"inlay/instr"
	"inlay/uvar"
)

const (
	least    = math.MinInt64
	greatest = math.MaxInt64
	without  = -1 // as many operands: there is none
	any64    = -2 // as many: each number
)

// dice tells numbers that look like any, the same ones each time.
type dice uint64

func (d *dice) roll(n int) int {
	*d = *d*6364136223846793005 + 1442695040888963407
	return int(*d >> 33 % dice(n))
}

// number tells one of either sign, and of any greatness.
func (d *dice) number() int {
	n := d.roll(1<<30)<<34 ^ d.roll(1<<30)<<10 ^ d.roll(1<<30)
	return n >> d.roll(64)
}

// kind is an instruction, what it is called, and how many operands it may have, from 0 on.
type kind struct {
	op   api.Op
	name string
	many int
}

// all tells what the chapters say of each instruction, in order.
func all() []kind {
	return []kind{
		{0, "nop", without}, {1, "push", any64}, {2, "load", 256}, {3, "store", 256}, {4, "pop", without}, {5, "dup", without},
		{6, "add", without}, {7, "sub", without}, {8, "mul", without}, {9, "div", without}, {10, "mod", without},
		{11, "neg", without}, {12, "less", without}, {13, "same", without}, {14, "not", without},
		{15, "pair", without}, {16, "plus", without}, {17, "minus", without}, {18, "times", without}, {19, "real", without}, {20, "imag", without},
		{21, "jump", 2000}, {22, "if", 2000}, {23, "call", 40}, {24, "defer", 40}, {25, "ret", without},
		{26, "panic", without}, {27, "recover", without}, {28, "getres", 4}, {29, "setres", 4},
		{30, "emit", without}, {31, "trace", without}, {32, "draw", without}, {33, "open", 120}, {34, "close", 120},
	}
}

// none tells numbers that are no instruction's.
func none() []api.Op {
	l := []api.Op{
		-1, -2, -35, -36, 35, 36, 37, 63, 64, 127, 128, 255, 256, 257, 1 << 16, 1 << 32, 1<<32 + 1, 1<<62 + 2,
		math.MinInt32, math.MaxInt32, least, least + 1, greatest - 1, greatest,
	}
	for _, k := range all() {
		l = append(l, k.op+256, k.op-256, k.op+1<<32, k.op+least, ^k.op)
	}
	return l
}

// operands tells numbers around all bounds, both ends, and some whose low bits are those of a smaller one.
func operands() []int {
	l := []int{
		least, least + 1, least + 3, math.MinInt32 - 1, math.MinInt32, -8193, -8192, -2001, -2000, -256, -255, -128, -127, -65, -64, -63,
		-40, -4, -3, -2, -1, 0, 1, 2, 3, 4, 5, 38, 39, 40, 41, 63, 64, 65, 118, 119, 120, 121, 127, 128, 129, 254, 255, 256, 257,
		999, 1000, 1998, 1999, 2000, 2001, 4096, 8191, 8192, 65535, 65536, 65537, 1 << 20, math.MaxInt32, math.MaxInt32 + 1,
		1 << 32, 1<<32 + 1, 1<<40 + 3, 1 << 62, 1<<62 + 1, greatest - 1, greatest,
	}
	return l
}

// fits tells whether the chapter lets an instruction of kind k have operand a.
func (k kind) fits(a int) bool {
	switch k.many {
	case without:
		return a == 0
	case any64:
		return true
	}
	return a >= 0 && a < k.many
}

// right tells what the chapter says of i.
func right(i api.Instr) bool {
	for _, k := range all() {
		if k.op == i.Op {
			return k.fits(i.A)
		}
	}
	return false
}

// asked tells instructions that are right and wrong, each with each of the operands.
func asked() []api.Instr {
	var l []api.Instr
	for _, a := range operands() {
		for _, k := range all() {
			l = append(l, api.Instr{Op: k.op, A: a})
		}
		for _, op := range none() {
			l = append(l, api.Instr{Op: op, A: a})
		}
	}
	return l
}

// rights tells those of asked that may be, and wrongs the others.
func rights() []api.Instr {
	return slices.DeleteFunc(asked(), func(i api.Instr) bool { return !right(i) })
}

func wrongs() []api.Instr {
	return slices.DeleteFunc(asked(), right)
}

// digits tells by division in numbers without an end what the chapter says that Digits tells.
func digits(n int) string {
	left, ten, digit := new(big.Int).Abs(big.NewInt(int64(n))), big.NewInt(10), new(big.Int)
	s := ""
	for {
		left.DivMod(left, ten, digit)
		s = string([]byte{byte('0' + digit.Int64())}) + s
		if left.Sign() == 0 {
			break
		}
	}
	if n < 0 {
		s = "-" + s
	}
	return s
}

// number tells what the chapter says that Number tells.
func number(s string) (int, api.Errno) {
	rest := strings.TrimPrefix(s, "-")
	if rest == "" || rest[0] == '0' && s != "0" {
		return 0, api.ErrForm
	}
	n := new(big.Int)
	for _, c := range []byte(rest) {
		if c < '0' || c > '9' || len(rest) > 19 {
			return 0, api.ErrForm
		}
		n.Add(n.Mul(n, big.NewInt(10)), big.NewInt(int64(c-'0')))
	}
	if rest != s {
		n.Neg(n)
	}
	if !n.IsInt64() {
		return 0, api.ErrForm
	}
	return int(n.Int64()), api.OK
}

// laid tells what the chapter says that i is laid as.
func laid(i api.Instr) []byte {
	if !right(i) {
		return nil
	}
	b := []byte{byte(i.Op)}
	if all()[i.Op].many != without {
		b = uvar.PutInt(b, i.A)
	}
	return b
}

// text tells what the chapter says that i's Text is.
func text(i api.Instr) string {
	if !right(i) {
		return ""
	}
	k := all()[i.Op]
	if k.many == without {
		return k.name
	}
	return k.name + " " + digits(i.A)
}

// read tells what the chapter says that Read tells.
func read(s string) (api.Instr, api.Errno) {
	name, rest, has := s, "", false
	for at := range len(s) {
		if s[at] == ' ' {
			name, rest, has = s[:at], s[at+1:], true
			break
		}
	}
	for _, k := range all() {
		if k.name != name {
			continue
		}
		if k.many == without && has || k.many != without && !has {
			return api.Instr{}, api.ErrForm
		}
		if !has {
			return api.Instr{Op: k.op}, api.OK
		}
		n, err := number(rest)
		if err != api.OK {
			return api.Instr{}, api.ErrForm
		}
		if !k.fits(n) {
			return api.Instr{}, api.ErrArg
		}
		return api.Instr{Op: k.op, A: n}, api.OK
	}
	return api.Instr{}, api.ErrOp
}

// taken tells what the chapter says that Take tells of bytes, and how many are taken.
func taken(b []byte) (api.Instr, int, api.Errno) {
	if len(b) == 0 {
		return api.Instr{}, 0, api.ErrShort
	}
	if b[0] >= 35 {
		return api.Instr{}, 0, api.ErrOp
	}
	i := api.Instr{Op: api.Op(b[0])}
	if all()[i.Op].many == without {
		return i, 1, api.OK
	}
	a, size, err := uvar.GetInt(b[1:])
	if err != api.OK {
		return api.Instr{}, 0, err
	}
	i.A = a
	if !right(i) {
		return api.Instr{}, 0, api.ErrArg
	}
	return i, 1 + size, api.OK
}

// filled tells k bytes c, and others behind them.
func filled(k int, c byte, behind ...byte) []byte {
	return append(bytes.Repeat([]byte{c}, k), behind...)
}

// joined tells bytes one behind the other.
func joined(parts ...[]byte) []byte {
	return bytes.Join(parts, nil)
}

// short tells a text that may be shown.
func short(s string) string {
	if len(s) > 60 {
		return s[:60] + ".."
	}
	return s
}

// reads holds what Read tells of s against what it should.
func reads(t *testing.T, s string, want api.Instr, err api.Errno) {
	t.Helper()
	if got, e := instr.Read(s); got != want || e != err {
		t.Errorf("Read(%q): %v, %d, want %v, %d", short(s), got, e, want, err)
	}
}

// readsAs holds what Read tells of s against the chapter.
func readsAs(t *testing.T, s string) {
	t.Helper()
	want, err := read(s)
	reads(t, s, want, err)
}

// numbers holds what Number tells of s against what it should.
func numbers(t *testing.T, s string, want int, err api.Errno) {
	t.Helper()
	if got, e := instr.Number(s); got != want || e != err {
		t.Errorf("Number(%q): %d, %d, want %d, %d", short(s), got, e, want, err)
	}
}

// numbersAs holds what Number tells of s against the chapter.
func numbersAs(t *testing.T, s string) {
	t.Helper()
	want, err := number(s)
	numbers(t, s, want, err)
}

// takes holds what Take tells of b against what it should: behind an error nothing is left, and each call tells it.
func takes(t *testing.T, b []byte, want api.Instr, size int, err api.Errno) {
	t.Helper()
	c := cursor.New(b)
	got := instr.Take(c)
	left := len(b) - size
	if err != api.OK {
		left = 0
	}
	if got != want || c.Err() != err || c.Left() != left {
		t.Errorf("Take of %v: %v, error %d, %d left, want %v, error %d, %d left", b, got, c.Err(), c.Left(), want, err, left)
	}
}

// takesAs holds what Take tells of b against the chapter.
func takesAs(t *testing.T, b []byte) {
	t.Helper()
	want, size, err := taken(b)
	takes(t, b, want, size, err)
}

func TestExamples(t *testing.T) {
	if got := instr.Text(api.Instr{Op: api.Push, A: -3}); got != "push -3" {
		t.Errorf("Text: %q", got)
	}
	reads(t, "jump 2000", api.Instr{}, api.ErrArg)
}

func TestEachInstructionIsAsked(t *testing.T) { // that these tests leave none out
	for n, k := range all() {
		if k.op != api.Op(n) {
			t.Fatalf("instruction %d stands where %d should", k.op, n)
		}
	}
	if n := len(all()); n != 35 || api.Ops != 35 {
		t.Errorf("%d instructions of %d, want 35", n, api.Ops)
	}
	for _, op := range none() {
		if op >= 0 && op < 35 {
			t.Errorf("%d is an instruction", op)
		}
	}
	if r, w := len(rights()), len(wrongs()); r < 200 || w < 5000 {
		t.Errorf("%d that are right, %d that are not: too few to tell", r, w)
	}
}

func TestRightAtTheBounds(t *testing.T) { // P10.1
	for _, x := range []struct {
		ops []api.Op
		top int
	}{
		{[]api.Op{api.Load, api.Store}, 255},
		{[]api.Op{api.Jump, api.If}, 1999},
		{[]api.Op{api.Call, api.Defer}, 39},
		{[]api.Op{api.GetRes, api.SetRes}, 3},
		{[]api.Op{api.Open, api.Close}, 119},
	} {
		for _, op := range x.ops {
			for _, a := range []int{0, 1, x.top - 1, x.top} {
				if !instr.Right(api.Instr{Op: op, A: a}) {
					t.Errorf("Right(%d %d): false", op, a)
				}
			}
			for _, a := range []int{-1, -2, -x.top, x.top + 1, x.top + 2, x.top + 1<<32, x.top - 1<<32, least, least + 1, greatest} {
				if instr.Right(api.Instr{Op: op, A: a}) {
					t.Errorf("Right(%d %d): true", op, a)
				}
			}
		}
	}
}

func TestRightOfEachNumberNearby(t *testing.T) { // P10.1
	for _, k := range all() {
		for a := -2100; a <= 2100; a++ {
			if got := instr.Right(api.Instr{Op: k.op, A: a}); got != k.fits(a) {
				t.Errorf("Right(%s %d): %t", k.name, a, got)
			}
		}
	}
}

func TestRightOfPush(t *testing.T) { // P10.1
	for _, a := range operands() {
		if !instr.Right(api.Instr{Op: api.Push, A: a}) {
			t.Errorf("Right(push %d): false", a)
		}
	}
}

func TestRightOfNoOperand(t *testing.T) { // P10.1
	for _, k := range all() {
		if k.many != without {
			continue
		}
		for _, a := range operands() {
			if got := instr.Right(api.Instr{Op: k.op, A: a}); got != (a == 0) {
				t.Errorf("Right(%s with A %d): %t", k.name, a, got)
			}
		}
	}
}

func TestRightOfNone(t *testing.T) { // P10.1
	for _, op := range none() {
		for _, a := range operands() {
			if instr.Right(api.Instr{Op: op, A: a}) {
				t.Errorf("Right(%d, %d): true", op, a)
			}
		}
	}
}

func TestRightOfMany(t *testing.T) { // P10.1
	for _, i := range asked() {
		if got := instr.Right(i); got != right(i) {
			t.Errorf("Right(%v): %t", i, got)
		}
	}
	d := dice(10)
	for range 50000 {
		i := api.Instr{Op: api.Op(d.roll(40) - 3), A: d.number()}
		if got := instr.Right(i); got != right(i) {
			t.Errorf("Right(%v): %t", i, got)
		}
	}
}

func TestPutOfNamedInstructions(t *testing.T) { // P10.2
	for _, x := range []struct {
		i    api.Instr
		want []byte
	}{
		{api.Instr{}, []byte{0}},
		{api.Instr{Op: api.Add}, []byte{6}},
		{api.Instr{Op: api.Ret}, []byte{25}},
		{api.Instr{Op: api.Draw}, []byte{32}},
		{api.Instr{Op: api.Push}, []byte{1, 0}},
		{api.Instr{Op: api.Push, A: 1}, []byte{1, 2}},
		{api.Instr{Op: api.Push, A: -1}, []byte{1, 1}},
		{api.Instr{Op: api.Push, A: -3}, []byte{1, 5}},
		{api.Instr{Op: api.Push, A: 63}, []byte{1, 126}},
		{api.Instr{Op: api.Push, A: -64}, []byte{1, 127}},
		{api.Instr{Op: api.Push, A: 64}, []byte{1, 128, 1}},
		{api.Instr{Op: api.Push, A: -65}, []byte{1, 129, 1}},
		{api.Instr{Op: api.Push, A: greatest}, joined([]byte{1, 254}, filled(8, 255, 1))},
		{api.Instr{Op: api.Push, A: least}, joined([]byte{1}, filled(9, 255, 1))},
		{api.Instr{Op: api.Load}, []byte{2, 0}},
		{api.Instr{Op: api.Load, A: 255}, []byte{2, 254, 3}},
		{api.Instr{Op: api.Store, A: 7}, []byte{3, 14}},
		{api.Instr{Op: api.Jump, A: 1999}, []byte{21, 158, 31}},
		{api.Instr{Op: api.If, A: 64}, []byte{22, 128, 1}},
		{api.Instr{Op: api.Call, A: 39}, []byte{23, 78}},
		{api.Instr{Op: api.Defer, A: 1}, []byte{24, 2}},
		{api.Instr{Op: api.GetRes, A: 3}, []byte{28, 6}},
		{api.Instr{Op: api.SetRes}, []byte{29, 0}},
		{api.Instr{Op: api.Open, A: 119}, []byte{33, 238, 1}},
		{api.Instr{Op: api.Close, A: 63}, []byte{34, 126}},
		{api.Instr{Op: api.Add, A: 1}, nil},
		{api.Instr{Op: api.Nop, A: -1}, nil},
		{api.Instr{Op: api.Load, A: 256}, nil},
		{api.Instr{Op: api.Store, A: -1}, nil},
		{api.Instr{Op: api.Jump, A: 2000}, nil},
		{api.Instr{Op: api.Call, A: 40}, nil},
		{api.Instr{Op: api.SetRes, A: 4}, nil},
		{api.Instr{Op: api.Open, A: 120}, nil},
		{api.Instr{Op: api.Ops}, nil},
		{api.Instr{Op: -1}, nil},
		{api.Instr{Op: 257, A: 5}, nil},
		{api.Instr{Op: least, A: least}, nil},
		{api.Instr{Op: greatest, A: greatest}, nil},
	} {
		for _, ahead := range [][]byte{nil, {}, {0}, {1, 2}, {128}, filled(20, 255)} {
			if got, want := instr.Put(slices.Clone(ahead), x.i), joined(ahead, x.want); !bytes.Equal(got, want) {
				t.Errorf("Put(%v, %v): %v, want %v", ahead, x.i, got, want)
			}
		}
	}
}

func TestPutOfMany(t *testing.T) { // P10.2
	for _, i := range asked() {
		want := laid(i)
		if got := instr.Put(nil, i); !bytes.Equal(got, want) {
			t.Errorf("Put(nil, %v): %v, want %v", i, got, want)
		}
		if got := instr.Put([]byte{7, 128}, i); !bytes.Equal(got, joined([]byte{7, 128}, want)) {
			t.Errorf("Put behind 7 128 of %v: %v", i, got)
		}
	}
}

func TestPutLeavesWhatIsAheadAndTheRoomBeyond(t *testing.T) { // P10.2, R3
	for _, i := range []api.Instr{
		{Op: api.Nop}, {Op: api.Close, A: 3}, {Op: api.Push, A: -65}, {Op: api.Jump, A: 1999}, {Op: api.Push, A: least},
		{Op: api.Ops}, {Op: api.Nop, A: 1}, {Op: api.Load, A: 256}, {Op: api.Load, A: -1},
	} {
		want := laid(i)
		for room := range 16 {
			whole := append([]byte{9, 200}, filled(room, 99)...)
			got := instr.Put(whole[:2:len(whole)], i)
			if !bytes.Equal(got, joined([]byte{9, 200}, want)) {
				t.Errorf("Put of %v with room for %d: %v", i, room, got)
			}
			if whole[0] != 9 || whole[1] != 200 {
				t.Errorf("Put of %v with room for %d: what is ahead became %v", i, room, whole[:2])
			}
			for at := 2; at < len(whole); at++ {
				mayBeWritten := room >= len(want) && at < len(got)
				if !mayBeWritten && whole[at] != 99 {
					t.Errorf("Put of %v with room for %d: byte %d behind the list was written", i, room, at)
				}
			}
		}
	}
}

func TestPutKeepsNothing(t *testing.T) { // R3
	b := []byte{1, 2}[:2:2]
	got := instr.Put(b, api.Instr{Op: api.Push, A: -65})
	b[0], b[1] = 50, 60
	if want := []byte{1, 2, 1, 129, 1}; !bytes.Equal(got, want) {
		t.Errorf("an answer of new memory changed with the list handed in: %v, want %v", got, want)
	}
	first, second := instr.Put(nil, api.Instr{Op: api.Load, A: 5}), instr.Put(nil, api.Instr{Op: api.Load, A: 5})
	first[0], first[1] = 9, 9
	if !bytes.Equal(second, []byte{2, 10}) || !bytes.Equal(instr.Put(nil, api.Instr{Op: api.Load, A: 5}), []byte{2, 10}) {
		t.Errorf("two answers share memory")
	}
	put := instr.Put(nil, api.Instr{Op: api.Nop})
	put = append(put, 77)
	if again := instr.Put(nil, api.Instr{Op: api.Ret}); !bytes.Equal(again, []byte{25}) || !bytes.Equal(put, []byte{0, 77}) {
		t.Errorf("a later answer changed an earlier one: %v, %v", put, again)
	}
}

func TestTakeOfNamedBytes(t *testing.T) { // P10.2
	zero := api.Instr{}
	for _, x := range []struct {
		b    []byte
		want api.Instr
		size int
		err  api.Errno
	}{
		{nil, zero, 0, api.ErrShort},
		{[]byte{}, zero, 0, api.ErrShort},
		{[]byte{0}, zero, 1, api.OK},
		{[]byte{0, 255, 7}, zero, 1, api.OK},
		{[]byte{25}, api.Instr{Op: api.Ret}, 1, api.OK},
		{[]byte{25, 25}, api.Instr{Op: api.Ret}, 1, api.OK},
		{[]byte{25, 128, 0}, api.Instr{Op: api.Ret}, 1, api.OK},
		{[]byte{32}, api.Instr{Op: api.Draw}, 1, api.OK},
		{[]byte{34, 0}, api.Instr{Op: api.Close}, 2, api.OK},
		{[]byte{1, 0}, api.Instr{Op: api.Push}, 2, api.OK},
		{[]byte{1, 5, 1, 5}, api.Instr{Op: api.Push, A: -3}, 2, api.OK},
		{[]byte{1, 128, 1, 0}, api.Instr{Op: api.Push, A: 64}, 3, api.OK},
		{joined([]byte{1}, filled(9, 255, 1, 9)), api.Instr{Op: api.Push, A: least}, 11, api.OK},
		{joined([]byte{1, 254}, filled(8, 255, 1)), api.Instr{Op: api.Push, A: greatest}, 11, api.OK},
		{[]byte{21, 158, 31}, api.Instr{Op: api.Jump, A: 1999}, 3, api.OK},
		// the byte is no Op: what stands behind counts for nothing
		{[]byte{35}, zero, 0, api.ErrOp},
		{[]byte{35, 0, 0}, zero, 0, api.ErrOp},
		{[]byte{127, 1}, zero, 0, api.ErrOp},
		{[]byte{128, 0}, zero, 0, api.ErrOp},
		{[]byte{128, 1}, zero, 0, api.ErrOp},
		{[]byte{129, 0}, zero, 0, api.ErrOp},
		{[]byte{255}, zero, 0, api.ErrOp},
		{[]byte{255, 128, 128}, zero, 0, api.ErrOp},
		{filled(12, 255), zero, 0, api.ErrOp},
		// the operand
		{[]byte{1}, zero, 0, api.ErrShort},
		{[]byte{1, 128}, zero, 0, api.ErrShort},
		{[]byte{2, 255, 255}, zero, 0, api.ErrShort},
		{joined([]byte{1}, filled(9, 128)), zero, 0, api.ErrShort},
		{[]byte{34}, zero, 0, api.ErrShort},
		{[]byte{1, 128, 0}, zero, 0, api.ErrLong},
		{[]byte{29, 128, 0}, zero, 0, api.ErrLong},
		{[]byte{2, 254, 131, 0}, zero, 0, api.ErrLong},
		{joined([]byte{1}, filled(9, 255, 0)), zero, 0, api.ErrLong},
		{joined([]byte{1}, filled(9, 255, 2)), zero, 0, api.ErrForm},
		{joined([]byte{22}, filled(10, 128, 0)), zero, 0, api.ErrForm},
		{joined([]byte{1}, filled(30, 255)), zero, 0, api.ErrForm},
		// not right
		{[]byte{2, 128, 4}, zero, 0, api.ErrArg},
		{[]byte{2, 1}, zero, 0, api.ErrArg},
		{[]byte{3, 128, 4, 9, 9}, zero, 0, api.ErrArg},
		{[]byte{21, 160, 31}, zero, 0, api.ErrArg},
		{[]byte{22, 1}, zero, 0, api.ErrArg},
		{[]byte{23, 80}, zero, 0, api.ErrArg},
		{[]byte{24, 1}, zero, 0, api.ErrArg},
		{[]byte{28, 8}, zero, 0, api.ErrArg},
		{[]byte{29, 1, 0}, zero, 0, api.ErrArg},
		{[]byte{33, 240, 1}, zero, 0, api.ErrArg},
		{[]byte{34, 1}, zero, 0, api.ErrArg},
		{joined([]byte{21}, filled(9, 255, 1)), zero, 0, api.ErrArg},
		{joined([]byte{33, 254}, filled(8, 255, 1)), zero, 0, api.ErrArg},
	} {
		takes(t, x.b, x.want, x.size, x.err)
	}
}

func TestTakeOfEachByteAlone(t *testing.T) { // P10.2
	for op := range 256 {
		takesAs(t, []byte{byte(op)})
		for _, behind := range [][]byte{{0}, {1}, {255}, {128}, {128, 0}, {128, 1}, {0, 0, 0}, filled(9, 255), filled(9, 255, 1), filled(9, 255, 2), filled(11, 255)} {
			takesAs(t, append([]byte{byte(op)}, behind...))
		}
	}
}

func TestTakeOfAllBytes(t *testing.T) { // P10.2: each two, and each three of what is an Op, and of some others
	for n := range 1 << 16 {
		takesAs(t, []byte{byte(n), byte(n >> 8)})
	}
	for _, op := range []byte{0, 1, 2, 21, 23, 28, 34, 35, 129} {
		for n := range 1 << 16 {
			takesAs(t, []byte{op, byte(n), byte(n >> 8)})
		}
	}
}

func TestTakeOfWrongOperands(t *testing.T) { // P10.2: such that Put would not lay, but bytes may tell
	for _, k := range all() {
		for _, a := range operands() {
			b := uvar.PutInt([]byte{byte(k.op)}, a)
			takesAs(t, b)
			takesAs(t, append(b, 0, 255))
		}
	}
}

func TestTakeLeavesWhatIsBehind(t *testing.T) { // P10.2, P10.4
	for _, i := range rights() {
		for _, behind := range [][]byte{nil, {0}, {1}, {255}, {128, 0}, filled(12, 255)} {
			c := cursor.New(joined(laid(i), behind))
			if got := instr.Take(c); got != i || c.Err() != api.OK || c.Left() != len(behind) {
				t.Errorf("Take of %v, behind it %v: %v, error %d, %d left", i, behind, got, c.Err(), c.Left())
			}
			for _, want := range behind {
				if got := c.Byte(); got != want {
					t.Errorf("behind %v: byte %d, want %d", i, got, want)
				}
			}
			if err := c.End(); err != api.OK {
				t.Errorf("behind %v: error %d", i, err)
			}
		}
	}
}

func TestTakeStandsBehindWhatWasTaken(t *testing.T) { // P10.2
	c := cursor.New([]byte{172, 2, 1, 5, 'x', 25, 7})
	n, i, b, j, last := c.Num(300), instr.Take(c), c.Byte(), instr.Take(c), c.Int()
	if n != 300 || i != (api.Instr{Op: api.Push, A: -3}) || b != 'x' || j != (api.Instr{Op: api.Ret}) || last != -4 || c.End() != api.OK {
		t.Errorf("%d, %v, %d, %v, %d, error %d", n, i, b, j, last, c.End())
	}
}

func TestTakeOfACutOne(t *testing.T) { // P10.2
	for _, i := range rights() {
		b := laid(i)
		for size := range b {
			takes(t, b[:size], api.Instr{}, 0, api.ErrShort)
		}
	}
}

func TestTakeBehindAnError(t *testing.T) { // P10.2, R2
	for _, err := range []api.Errno{api.ErrMade, api.ErrArg, api.ErrShort, api.ErrLong, api.ErrForm, api.ErrMany, api.ErrOp, api.ErrNone, 77, -1} {
		for _, b := range [][]byte{nil, {0}, {25, 25}, {1, 5}, {35}, {1}, {2, 1}, {1, 128, 0}} {
			c := cursor.New(b)
			c.Fail(err)
			for range 3 {
				if got := instr.Take(c); got != (api.Instr{}) || c.Err() != err || c.Left() != 0 || c.End() != err {
					t.Errorf("Take of %v behind error %d: %v, error %d, %d left", b, err, got, c.Err(), c.Left())
				}
			}
		}
	}
}

func TestTakeKeepsTheFirstError(t *testing.T) { // P10.2, R2: and takes nothing more
	for _, b := range [][]byte{{35, 25, 25}, {255, 1, 5}, {2, 1, 25, 25}, {1, 128, 0, 25}, joined([]byte{1}, filled(10, 255, 25)), {21, 160, 31, 25}, {1, 128}, {1}, nil} {
		_, _, err := taken(b)
		c := cursor.New(b)
		for n := range 4 {
			if got := instr.Take(c); got != (api.Instr{}) || c.Err() != err || c.Left() != 0 {
				t.Errorf("Take %d of %v: %v, error %d, %d left, want error %d", n, b, got, c.Err(), c.Left(), err)
			}
		}
		c.Fail(api.ErrNone)
		if got := c.Byte(); got != 0 || c.Err() != err || c.End() != err {
			t.Errorf("behind Take of %v: byte %d, error %d, want %d", b, got, c.Err(), err)
		}
	}
}

func TestTakeOfACursorThatNoCallMade(t *testing.T) { // P10.2, R1, R5
	if got := instr.Take(nil); got != (api.Instr{}) {
		t.Errorf("Take of nil: %v", got)
	}
	c := new(cursor.Cursor)
	for range 2 {
		if got := instr.Take(c); got != (api.Instr{}) || c.Err() != api.ErrMade || c.Left() != 0 {
			t.Errorf("Take of a zero cursor: %v, error %d", got, c.Err())
		}
	}
}

func TestTakeChangesNoBytes(t *testing.T) { // R3
	for _, b := range [][]byte{{1, 5, 9}, {25}, {35, 1}, {2, 1}, {1, 128, 0}, filled(12, 255)} {
		room := append(slices.Clone(b), 77, 88)
		was := slices.Clone(room)
		instr.Take(cursor.New(room[:len(b)]))
		if !bytes.Equal(room, was) {
			t.Errorf("%v became %v", was, room)
		}
	}
}

func TestWhatWasPutIsTaken(t *testing.T) { // P10.4
	var b []byte
	for _, i := range rights() {
		one := instr.Put(nil, i)
		takes(t, one, i, len(one), api.OK)
		b = instr.Put(b, i)
	}
	for _, i := range wrongs() { // nothing stands there for these
		b = instr.Put(b, i)
	}
	c := cursor.New(b)
	for _, want := range rights() {
		if got := instr.Take(c); got != want {
			t.Fatalf("Take: %v, want %v, error %d", got, want, c.Err())
		}
	}
	if err := c.End(); err != api.OK {
		t.Errorf("behind all: error %d, %d left", err, c.Left())
	}
}

func TestWhatIsTakenIsPut(t *testing.T) { // P10.4: bytes that are taken are just those that are put
	d := dice(3)
	held := 0
	for range 200000 {
		b := make([]byte, 1+d.roll(12))
		small := 2 + d.roll(255)
		for at := range b {
			b[at] = byte(d.roll(small))
		}
		takesAs(t, b)
		c := cursor.New(b)
		if i := instr.Take(c); c.Err() == api.OK {
			held++
			if got := instr.Put(nil, i); !bytes.Equal(got, b[:len(b)-c.Left()]) {
				t.Fatalf("Take of %v: %v, but that is put as %v", b, i, got)
			}
		}
	}
	if held < 10000 {
		t.Errorf("of the bytes %d begin with an instruction: too few to tell", held)
	}
}

// texts tells numbers, and what the chapter says that their Digits are.
func texts() map[int]string {
	return map[int]string{
		0: "0", 1: "1", -1: "-1", 7: "7", 9: "9", 10: "10", -9: "-9", -10: "-10", 11: "11", 99: "99", 100: "100", 101: "101", -100: "-100",
		-120: "-120", 255: "255", 1999: "1999", 1000000: "1000000", 1234567890: "1234567890", -9876543210: "-9876543210",
		math.MaxInt32: "2147483647", math.MaxInt32 + 1: "2147483648", math.MinInt32: "-2147483648", 1 << 32: "4294967296",
		greatest - 1: "9223372036854775806", greatest: "9223372036854775807",
		least + 1: "-9223372036854775807", least: "-9223372036854775808",
	}
}

// many tells numbers of each length, and others.
func many() []int {
	l := operands()
	for p, k := 1, 0; k < 19; p, k = p*10, k+1 {
		l = append(l, p-1, p, p+1, -p+1, -p, -p-1, p*9, -p*9)
	}
	d := dice(7)
	for range 5000 {
		l = append(l, d.number())
	}
	return l
}

func TestDigitsOfNamedNumbers(t *testing.T) { // P10.3
	for n, want := range texts() {
		if got := instr.Digits(n); got != want {
			t.Errorf("Digits(%d): %q, want %q", n, got, want)
		}
	}
}

func TestDigitsOfMany(t *testing.T) { // P10.3
	for _, n := range many() {
		if got, want := instr.Digits(n), digits(n); got != want {
			t.Errorf("Digits(%d): %q, want %q", n, got, want)
		}
	}
	for n := -3000; n <= 3000; n++ {
		if got, want := instr.Digits(n), digits(n); got != want {
			t.Errorf("Digits(%d): %q, want %q", n, got, want)
		}
	}
}

func TestNumberOfDigits(t *testing.T) { // P10.3
	for n, s := range texts() {
		numbers(t, s, n, api.OK)
	}
	for _, n := range many() {
		numbers(t, digits(n), n, api.OK)
	}
	for n := -3000; n <= 3000; n++ {
		numbers(t, digits(n), n, api.OK)
	}
}

// notNumbers tells texts that are no number's Digits.
func notNumbers() []string {
	return []string{
		"", "-", "--", "--1", "-1-", "1-", "1-2", "0-", "-0", "-00", "+", "+0", "+1", "-+1", "+-1", "1+", "1+1",
		"00", "01", "007", "-01", "-007", "000", "0000000000000000000000000000001", "-0000000000000000000000000000001",
		" ", "  ", " 1", "1 ", " 1 ", "1 2", "- 1", "-1 ", " -1", "\t1", "1\t", "1\n", "\n1", "1\r\n", "\v1", "1\x00", "\x001", "\u00a01", "1\u00a0",
		"a", "1a", "a1", "1a1", "x", "0x1", "0x10", "0X1", "0b1", "0o7", "0b", "0x", "1e3", "1E3", "1.0", "1.", ".1", "0.0", "1,000", "1_000", "_1", "1_", "0_0", "'1'", "\"1\"",
		"nan", "NaN", "inf", "Inf", "-inf", "true", "nil", "push", "push 1", "one", "1/1", "1*1", "$1", "#1", "%1", "(1)", "1:", "1;", "/", ":", "-/", "-:",
		"\u0661", "\u0967", "\uff11", "\uff10", "1\uff11", "\u00b2", "\u2460", "\u2212" + "1", "\u20131", "\uff0d1", "\ufeff1", "1\u0301", "\u00e4", "\U0001d7d9",
		"\x80", "\xff", "1\xff", "\xff1", "\xc3", "1\xc3", "\xc0\xb1", "\xb1", "1\xb11", "\xed\xa0\x80", "-\x80", "-\xff",
		"9223372036854775808", "-9223372036854775809", "9223372036854775810", "-9223372036854775810", "9999999999999999999", "-9999999999999999999",
		"10000000000000000000", "-10000000000000000000", "18446744073709551615", "18446744073709551616", "18446744073709551617", "-18446744073709551616", "-18446744073709551615",
		"92233720368547758070", "-92233720368547758080", "36893488147419103232", "340282366920938463463374607431768211456", "340282366920938463463374607431768211457",
		"09223372036854775807", "-09223372036854775808", "+9223372036854775807",
	}
}

func TestNumberOfWrongTexts(t *testing.T) { // P10.3, R7
	for _, s := range notNumbers() {
		numbers(t, s, 0, api.ErrForm)
	}
}

func TestNumberOfLongTexts(t *testing.T) { // P10.3, R1
	for _, part := range []string{"0", "1", "9", "-", "+", " ", "a", "\x00", "\xff", "\u0661", "10", "-1"} {
		for _, n := range []int{20, 21, 64, 1000, 1 << 16, 1 << 20} {
			numbers(t, strings.Repeat(part, n), 0, api.ErrForm)
			numbers(t, "1"+strings.Repeat(part, n), 0, api.ErrForm)
			numbers(t, "-"+strings.Repeat(part, n), 0, api.ErrForm)
			numbers(t, strings.Repeat(part, n)+"1", 0, api.ErrForm)
		}
	}
}

func TestNumberOfAllShortTexts(t *testing.T) { // P10.3: of one byte, of two, and of up to five of those that stand in numbers
	for a := range 256 {
		numbersAs(t, string([]byte{byte(a)}))
		for b := range 256 {
			numbersAs(t, string([]byte{byte(a), byte(b)}))
		}
	}
	l := []string{""}
	for range 5 {
		var next []string
		for _, s := range l {
			for _, c := range "-+0129 _x" {
				next = append(next, s+string(c))
			}
		}
		for _, s := range next {
			numbersAs(t, s)
		}
		l = next
	}
}

func TestNumberOfDigitsWithAByteChanged(t *testing.T) { // P10.3
	for _, s := range []string{"0", "7", "-7", "10", "-10", "2000", "-123", "9223372036854775807", "-9223372036854775808", "9223372036854775799"} {
		for at := range len(s) + 1 {
			for c := range 256 {
				more := string([]byte{byte(c)})
				numbersAs(t, s[:at]+more+s[at:])
				if at < len(s) {
					numbersAs(t, s[:at]+more+s[at+1:])
				}
			}
			if at < len(s) {
				numbersAs(t, s[:at]+s[at+1:])
			}
		}
	}
}

func TestNumberIsOfItsDigitsAlone(t *testing.T) { // P10.3: no other text is told as a number
	d := dice(12)
	for range 100000 {
		b := make([]byte, d.roll(22))
		for at := range b {
			b[at] = "-0123456789+ _"[d.roll(11+d.roll(4))]
		}
		numbersAs(t, string(b))
		if n, err := instr.Number(string(b)); err == api.OK && instr.Digits(n) != string(b) {
			t.Fatalf("Number(%q): %d, whose Digits are %q", b, n, instr.Digits(n))
		}
	}
}

func TestTextOfNamedInstructions(t *testing.T) { // P10.3
	for _, x := range []struct {
		i    api.Instr
		want string
	}{
		{api.Instr{}, "nop"},
		{api.Instr{Op: api.Push}, "push 0"},
		{api.Instr{Op: api.Push, A: 5}, "push 5"},
		{api.Instr{Op: api.Push, A: -1}, "push -1"},
		{api.Instr{Op: api.Push, A: greatest}, "push 9223372036854775807"},
		{api.Instr{Op: api.Push, A: least}, "push -9223372036854775808"},
		{api.Instr{Op: api.Load, A: 255}, "load 255"},
		{api.Instr{Op: api.Store}, "store 0"},
		{api.Instr{Op: api.Jump, A: 1999}, "jump 1999"},
		{api.Instr{Op: api.If, A: 3}, "if 3"},
		{api.Instr{Op: api.Call, A: 39}, "call 39"},
		{api.Instr{Op: api.Defer, A: 1}, "defer 1"},
		{api.Instr{Op: api.Ret}, "ret"},
		{api.Instr{Op: api.GetRes, A: 3}, "getres 3"},
		{api.Instr{Op: api.SetRes, A: 2}, "setres 2"},
		{api.Instr{Op: api.Open, A: 119}, "open 119"},
		{api.Instr{Op: api.Close}, "close 0"},
		{api.Instr{Op: api.Nop, A: 1}, ""},
		{api.Instr{Op: api.Ret, A: -1}, ""},
		{api.Instr{Op: api.Load, A: -1}, ""},
		{api.Instr{Op: api.Load, A: 256}, ""},
		{api.Instr{Op: api.Jump, A: 2000}, ""},
		{api.Instr{Op: api.Call, A: 40}, ""},
		{api.Instr{Op: api.GetRes, A: 4}, ""},
		{api.Instr{Op: api.Close, A: 120}, ""},
		{api.Instr{Op: api.Ops}, ""},
		{api.Instr{Op: -1}, ""},
		{api.Instr{Op: least, A: least}, ""},
		{api.Instr{Op: greatest, A: greatest}, ""},
	} {
		if got := instr.Text(x.i); got != x.want {
			t.Errorf("Text(%v): %q, want %q", x.i, got, x.want)
		}
	}
}

func TestTextOfMany(t *testing.T) { // P10.3
	for _, i := range asked() {
		if got, want := instr.Text(i), text(i); got != want {
			t.Errorf("Text(%v): %q, want %q", i, got, want)
		}
	}
	for _, k := range all() {
		for a := -10; a <= 2010; a++ {
			i := api.Instr{Op: k.op, A: a}
			if got, want := instr.Text(i), text(i); got != want {
				t.Errorf("Text(%v): %q, want %q", i, got, want)
			}
		}
	}
}

func TestReadOfEachText(t *testing.T) { // P10.3, P10.4
	for _, i := range rights() {
		reads(t, text(i), i, api.OK)
		reads(t, instr.Text(i), i, api.OK)
		reads(t, string([]byte(text(i))), i, api.OK)
		s := "<" + text(i) + " 1>"
		reads(t, s[1:1+len(text(i))], i, api.OK) // within a longer text
	}
	for _, i := range wrongs() { // the empty text
		reads(t, instr.Text(i), api.Instr{}, api.ErrOp)
	}
}

func TestReadOfNamesThatAreNone(t *testing.T) { // P10.3
	for _, s := range []string{
		"", " ", "  ", "\t", "\n", "x", "pus", "pushx", "no", "nope", "op", "Push", "PUSH", "nop,", "nop,push", ",", "push,1", "push:1", "push\t1", "push\n1", "push-1", "push1", "nop\n", "nop\t", "nop\x00",
		" nop", " push 1", "  push 1", " 1", "1", "1 push", "-1", "0", "push\u00a01", "push\u20031", "\ufeffpush 1", "nop\xff", "\xff", "\xc3\xa4", "push\xff 1", "p\xc0\xb5sh 1", "n\u043ep", "\uff4e\uff4f\uff50", "i\u0000f 1", "\u0131f 1",
		"getRes 1", "get res 1", "get_res 1", "setres1", "goto 1", "jmp 1", "return", "1 nop", "open0", "35", "nops", "ret.",
	} {
		reads(t, s, api.Instr{}, api.ErrOp)
	}
	for _, k := range all() {
		for _, behind := range []string{"", " ", " 1", " 0", " -1", " x", "  1"} {
			for _, name := range []string{
				" " + k.name, "\t" + k.name, strings.ToUpper(k.name), strings.ToUpper(k.name[:1]) + k.name[1:], k.name[:len(k.name)-1] + strings.ToUpper(k.name[len(k.name)-1:]),
				k.name + "x", "x" + k.name, k.name[1:], k.name[:len(k.name)-1], k.name + k.name, k.name + ",", k.name + "\t", k.name + "\n", k.name + "\x00", k.name + "-", k.name + "1", k.name + "0", k.name + "\xff", k.name + "\u00a0",
			} {
				reads(t, name+behind, api.Instr{}, api.ErrOp)
			}
		}
	}
}

func TestReadOfOneThatLacksItsNumber(t *testing.T) { // P10.3
	for _, k := range all() {
		if k.many != without {
			reads(t, k.name, api.Instr{}, api.ErrForm)
			reads(t, k.name+" ", api.Instr{}, api.ErrForm)
			reads(t, k.name+"  ", api.Instr{}, api.ErrForm)
		}
	}
}

func TestReadOfOneWithANumberThatItShouldNotHave(t *testing.T) { // P10.3
	for _, k := range all() {
		if k.many == without {
			for _, behind := range []string{" ", "  ", " 0", " 1", " -1", " x", " 0 ", "  0", " nop", " " + digits(greatest), " 9223372036854775808", " \t", " \xff"} {
				reads(t, k.name+behind, api.Instr{}, api.ErrForm)
			}
		}
	}
}

func TestReadOfOneWithANumberThatIsNone(t *testing.T) { // P10.3
	for _, k := range all() {
		if k.many == without {
			continue
		}
		for _, s := range notNumbers() {
			reads(t, k.name+" "+s, api.Instr{}, api.ErrForm)
		}
		for _, s := range []string{"  1", " 1 ", " 1 2", " 1\n", " 1\x00", " 1 nop", " 1,", " 1\t2", " 0 0", "  -1", " 2000 ", " -1 ", " 256 1"} {
			reads(t, k.name+s, api.Instr{}, api.ErrForm)
		}
	}
}

func TestReadOfOneThatIsNotRight(t *testing.T) { // P10.3
	for _, k := range all() {
		if k.many == without || k.many == any64 {
			continue
		}
		for _, a := range []int{-1, -2, k.many, k.many + 1, 2000, 1 << 32, greatest, least} {
			reads(t, k.name+" "+digits(a), api.Instr{}, api.ErrArg)
		}
		for a := range k.many {
			reads(t, k.name+" "+digits(a), api.Instr{Op: k.op, A: a}, api.OK)
		}
	}
	for _, a := range operands() {
		reads(t, "push "+digits(a), api.Instr{Op: api.Push, A: a}, api.OK)
	}
}

func TestReadTellsTheFirstErrorOfSeveral(t *testing.T) { // P10.3, R2
	for s, want := range map[string]api.Errno{
		"nope":                     api.ErrOp, // no such name, whatever stands behind
		"nope ":                    api.ErrOp,
		"nope x":                   api.ErrOp,
		"nope -0":                  api.ErrOp,
		"jumps 2000":               api.ErrOp,
		"JUMP 2000":                api.ErrOp,
		"Jump x":                   api.ErrOp,
		"NOP 1":                    api.ErrOp,
		" jump 2000":               api.ErrOp,
		" jump":                    api.ErrOp,
		" nop 1":                   api.ErrOp,
		"\tload 256":               api.ErrOp,
		"jump 2000 ":               api.ErrForm, // the number is none, though what it begins with would not be right
		"jump 02000":               api.ErrForm,
		"jump +2000":               api.ErrForm,
		"jump -0":                  api.ErrForm,
		"jump  2000":               api.ErrForm,
		"jump 2000 2000":           api.ErrForm,
		"load 256x":                api.ErrForm,
		"call -01":                 api.ErrForm,
		"getres --4":               api.ErrForm,
		"open 1e9":                 api.ErrForm,
		"nop 1":                    api.ErrForm, // it should have none, and would not be right with it
		"ret -1":                   api.ErrForm,
		"ret x":                    api.ErrForm,
		"add 01":                   api.ErrForm,
		"if 99999999999999999999":  api.ErrForm, // no number of 64 bits: none, and not one that is too great
		"if -99999999999999999999": api.ErrForm,
		"if 9223372036854775808":   api.ErrForm,
		"if 9223372036854775807":   api.ErrArg,
		"if -9223372036854775808":  api.ErrArg,
		"if -9223372036854775809":  api.ErrForm,
		"if -1":                    api.ErrArg,
		"if 1999":                  api.OK,
	} {
		if i, err := instr.Read(s); err != want || err != api.OK && i != (api.Instr{}) {
			t.Errorf("Read(%q): %v, %d, want error %d", s, i, err, want)
		}
	}
}

func TestReadOfTextsWithAByteChanged(t *testing.T) { // P10.3
	for _, k := range all() {
		for _, a := range []int{0, 3, 12} {
			s := text(api.Instr{Op: k.op, A: a})
			for at := range len(s) + 1 {
				for c := range 256 {
					more := string([]byte{byte(c)})
					readsAs(t, s[:at]+more+s[at:])
					if at < len(s) {
						readsAs(t, s[:at]+more+s[at+1:])
					}
				}
				if at < len(s) {
					readsAs(t, s[:at]+s[at+1:])
				}
				readsAs(t, s[:at])
				readsAs(t, s[at:])
			}
		}
	}
}

func TestReadOfManyTexts(t *testing.T) { // P10.3, P10.4
	d := dice(5)
	parts := []string{" ", " ", " ", "0", "1", "2000", "255", "256", "-", "-1", "+", "", "\t", "x", "N", "\xff", "\u00e4", ","}
	for _, k := range all() {
		parts = append(parts, k.name, k.name+" ")
	}
	for range 100000 {
		s := all()[d.roll(35)].name
		if d.roll(4) == 0 {
			s = parts[d.roll(len(parts))]
		}
		for range d.roll(4) {
			s += parts[d.roll(len(parts))]
		}
		readsAs(t, s)
		if i, err := instr.Read(s); err == api.OK && instr.Text(i) != s {
			t.Fatalf("Read(%q): %v, whose Text is %q", s, i, instr.Text(i))
		}
	}
}

func TestReadOfLongTexts(t *testing.T) { // P10.3, R1
	for _, part := range []string{"nop", "push", " ", "0", "1", "9", "-", "a", "\x00", "\xff", "push 1", "push 1 "} {
		for _, n := range []int{30, 1000, 1 << 18} {
			long := strings.Repeat(part, n)
			for _, ahead := range []string{"", "push", "push ", "nop ", "jump ", "jump 1", "push -", "x "} {
				readsAs(t, ahead+long)
			}
		}
	}
}

func TestTheSameEachTime(t *testing.T) { // R4
	type told struct {
		right      bool
		put        string
		text       string
		back       api.Instr
		err        api.Errno
		of         string
		number     int
		wrong      api.Errno
		taken      api.Instr
		takenError api.Errno
	}
	ask := func(i api.Instr) told {
		x := told{right: instr.Right(i), put: string(instr.Put(nil, i)), text: instr.Text(i), of: instr.Digits(i.A)}
		x.back, x.err = instr.Read(x.text)
		x.number, x.wrong = instr.Number(x.of)
		c := cursor.New([]byte(x.put))
		x.taken, x.takenError = instr.Take(c), c.Err()
		return x
	}
	l := asked()
	var first []told
	for _, i := range l {
		first = append(first, ask(i))
	}
	for n := len(l) - 1; n >= 0; n-- { // in another order
		if again := ask(l[n]); again != first[n] {
			t.Errorf("of %v: %v, and then %v", l[n], first[n], again)
		}
	}
	for n, i := range l {
		if first[n].number != i.A || first[n].wrong != api.OK {
			t.Errorf("Number of the Digits of %d: %d, error %d", i.A, first[n].number, first[n].wrong)
		}
		if first[n].right && (first[n].back != i || first[n].taken != i) {
			t.Errorf("%v is read as %v, and taken as %v", i, first[n].back, first[n].taken)
		}
	}
}

func FuzzTake(f *testing.F) { // P10.2, P10.4, P1
	for _, b := range [][]byte{nil, {0}, {1, 5}, {2, 254, 3}, {35}, {1, 128, 0}, {21, 160, 31}, {34, 128}, filled(12, 255)} {
		f.Add(b)
	}
	f.Fuzz(func(t *testing.T, b []byte) {
		was := slices.Clone(b)
		takesAs(t, b)
		c := cursor.New(b)
		if i := instr.Take(c); c.Err() == api.OK && !bytes.Equal(instr.Put(nil, i), b[:len(b)-c.Left()]) {
			t.Fatalf("Take of %v: %v, but that is put as %v", b, i, instr.Put(nil, i))
		}
		if !bytes.Equal(b, was) {
			t.Fatalf("%v became %v", was, b)
		}
	})
}

func FuzzRead(f *testing.F) { // P10.3, P10.4, P1
	for _, s := range append(notNumbers(), "nop", "push -3", "jump 2000", "load 255", "ret ", "getres  1", "Close 0") {
		f.Add(s)
	}
	f.Fuzz(func(t *testing.T, s string) {
		readsAs(t, s)
		numbersAs(t, s)
		if i, err := instr.Read(s); err == api.OK && instr.Text(i) != s {
			t.Fatalf("Read(%q): %v, whose Text is %q", s, i, instr.Text(i))
		}
	})
}

func FuzzInstr(f *testing.F) { // P10.1 to P10.4, P1
	f.Add(1, -3)
	f.Add(21, 2000)
	f.Add(35, 0)
	f.Fuzz(func(t *testing.T, op, a int) {
		i := api.Instr{Op: api.Op(op), A: a}
		if instr.Right(i) != right(i) || !bytes.Equal(instr.Put(nil, i), laid(i)) || instr.Text(i) != text(i) || instr.Digits(a) != digits(a) {
			t.Fatalf("%v: %t, %v, %q, %q", i, instr.Right(i), instr.Put(nil, i), instr.Text(i), instr.Digits(a))
		}
		numbers(t, digits(a), a, api.OK)
		takesAs(t, instr.Put(nil, i))
		readsAs(t, instr.Text(i))
	})
}
