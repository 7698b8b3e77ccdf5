package whole_test

import (
	"math"
	"math/big"
	"slices"
	"testing"

	"inlay/api"
	"inlay/whole"
)

const (
	least    = math.MinInt64
	greatest = math.MaxInt64
)

// dice tells numbers that look like any, the same ones each time.
type dice uint64

func (d *dice) roll(n int) int {
	*d = *d*6364136223846793005 + 1442695040888963407
	return int(*d >> 33 % dice(n))
}

// number tells one of either sign, and of any greatness.
func (d *dice) number() int {
	n := d.roll(1<<30)<<34 ^ d.roll(1<<30)<<10 ^ d.roll(1<<30)
	return n >> d.roll(64)
}

// twos, ones and rest are the operations by how many numbers they take, told once more.
func twos() []api.Op {
	return []api.Op{api.Add, api.Sub, api.Mul, api.Div, api.Mod, api.Less, api.Same}
}

func ones() []api.Op { return []api.Op{api.Neg, api.Not} }

func rest() []api.Op {
	return []api.Op{
		api.Nop, api.Push, api.Load, api.Store, api.Pop, api.Dup,
		api.Pair, api.Plus, api.Minus, api.Times, api.Real, api.Imag,
		api.Jump, api.If, api.Call, api.Defer, api.Ret, api.Panic, api.Recover,
		api.GetRes, api.SetRes, api.Emit, api.Trace, api.Draw, api.Open, api.Close,
	}
}

// none tells numbers that are no operation's: both ends, those beside the operations, and some that end in an operation's bits.
func none() []api.Op {
	l := []api.Op{
		api.Ops, api.Ops + 1, 36, 63, 64, 100, 127, 128, 255, 256, 1000, 1 << 20, math.MaxInt32, math.MaxInt32 + 1, greatest - 1, greatest,
		-1, -2, -5, -35, -36, -128, -256, math.MinInt32, math.MinInt32 - 1, least + 1, least,
	}
	for _, op := range slices.Concat(twos(), ones()) {
		l = append(l, -op, ^op)
		for _, k := range []int{6, 8, 16, 31, 32, 62} {
			l = append(l, op+1<<k, op-1<<k)
		}
		l = append(l, op+least)
	}
	return l
}

// all tells every operation, and numbers that are none.
func all() []api.Op { return slices.Concat(twos(), ones(), rest(), none()) }

// sharp tells the numbers at which something changes: around 0, both ends, and around the powers of 2.
func sharp() []int {
	l := []int{0, 1, -1, 2, -2, 3, -3, 5, 7, -7, 10, least, least + 1, least + 2, greatest, greatest - 1, greatest - 2}
	for _, k := range []int{8, 15, 16, 31, 32, 33, 52, 53, 61, 62} {
		l = append(l, 1<<k-1, 1<<k, 1<<k+1, -1<<k-1, -1<<k, -1<<k+1)
	}
	return append(l, 3037000499, 3037000500, -3037000499, -3037000500, least/3, greatest/3) // the roots of 2^63
}

// round tells x modulo 2^64, from -2^63 on.
func round(x *big.Int) int {
	low := new(big.Int).And(x, new(big.Int).SetUint64(math.MaxUint64))
	return int(low.Uint64())
}

// reckoned tells what the chapter says of Two, by numbers without an end.
func reckoned(op api.Op, a, b int) (int, bool) {
	x, y, z := big.NewInt(int64(a)), big.NewInt(int64(b)), new(big.Int)
	switch {
	case op == api.Add:
		return round(z.Add(x, y)), true
	case op == api.Sub:
		return round(z.Sub(x, y)), true
	case op == api.Mul:
		return round(z.Mul(x, y)), true
	case op == api.Div && y.Sign() != 0:
		return round(z.Quo(x, y)), true
	case op == api.Mod && y.Sign() != 0:
		return round(z.Rem(x, y)), true
	case op == api.Less && x.Cmp(y) < 0, op == api.Same && x.Cmp(y) == 0:
		return 1, true
	}
	return 0, op == api.Less || op == api.Same
}

// turned tells what the chapter says of One, by numbers without an end.
func turned(op api.Op, a int) int {
	x := big.NewInt(int64(a))
	switch {
	case op == api.Neg:
		return round(x.Neg(x))
	case op == api.Not && x.Sign() == 0:
		return 1
	}
	return 0
}

func two(t *testing.T, op api.Op, a, b, want int, so bool) {
	t.Helper()
	if got, ok := whole.Two(op, a, b); got != want || ok != so {
		t.Errorf("Two(%d, %d, %d): %d, %t, want %d, %t", op, a, b, got, ok, want, so)
	}
}

func one(t *testing.T, op api.Op, a, want int) {
	t.Helper()
	if got := whole.One(op, a); got != want {
		t.Errorf("One(%d, %d): %d, want %d", op, a, got, want)
	}
}

func takes(t *testing.T, want int, l ...api.Op) {
	t.Helper()
	for _, op := range l {
		if got := whole.Takes(op); got != want {
			t.Errorf("Takes(%d): %d, want %d", op, got, want)
		}
	}
}

func TestExamples(t *testing.T) {
	two(t, api.Div, -7, 2, -3, true)
	two(t, api.Mod, -7, 2, -1, true)
	two(t, api.Div, 1, 0, 0, false)
}

func TestTakes(t *testing.T) { // P6.1
	takes(t, 2, twos()...)
	takes(t, 1, ones()...)
	takes(t, 0, rest()...)
	takes(t, 0, none()...)
}

func TestEachOperationIsAsked(t *testing.T) { // that these tests leave none out
	l := slices.Concat(twos(), ones(), rest())
	slices.Sort(l)
	for i, op := range l {
		if op != api.Op(i) {
			t.Fatalf("operation %d stands where %d should", op, i)
		}
	}
	if len(l) != int(api.Ops) {
		t.Errorf("%d operations, want %d", len(l), api.Ops)
	}
	for _, op := range none() {
		if op >= 0 && op < api.Ops {
			t.Errorf("%d is an operation", op)
		}
	}
}

func TestTakesOfManyNumbers(t *testing.T) { // P6.1
	for n := -3000; n < 3000; n++ {
		op, want := api.Op(n), 0
		if slices.Contains(twos(), op) {
			want = 2
		}
		if slices.Contains(ones(), op) {
			want = 1
		}
		takes(t, want, op)
	}
}

func TestAddSubMulOfNamedNumbers(t *testing.T) { // P6.2
	for _, x := range []struct {
		op         api.Op
		a, b, want int
	}{
		{api.Add, 0, 0, 0},
		{api.Add, 2, 3, 5},
		{api.Add, 2, -3, -1},
		{api.Add, -2, -3, -5},
		{api.Add, greatest, 0, greatest},
		{api.Add, greatest, 1, least},
		{api.Add, 1, greatest, least},
		{api.Add, greatest, 2, least + 1},
		{api.Add, greatest, greatest, -2},
		{api.Add, greatest, least, -1},
		{api.Add, greatest - 1, 1, greatest},
		{api.Add, least, 0, least},
		{api.Add, least, -1, greatest},
		{api.Add, -1, least, greatest},
		{api.Add, least, least, 0},
		{api.Add, least + 1, -1, least},
		{api.Sub, 0, 0, 0},
		{api.Sub, 2, 3, -1},
		{api.Sub, 3, 2, 1},
		{api.Sub, 2, -3, 5},
		{api.Sub, -2, 3, -5},
		{api.Sub, -2, -3, 1},
		{api.Sub, 0, least, least},
		{api.Sub, 1, least, least + 1},
		{api.Sub, -1, least, greatest},
		{api.Sub, -2, least, greatest - 1},
		{api.Sub, 0, greatest, least + 1},
		{api.Sub, -1, greatest, least},
		{api.Sub, -2, greatest, greatest},
		{api.Sub, least, 0, least},
		{api.Sub, least, 1, greatest},
		{api.Sub, least, least, 0},
		{api.Sub, least, greatest, 1},
		{api.Sub, greatest, 0, greatest},
		{api.Sub, greatest, -1, least},
		{api.Sub, greatest, least, -1},
		{api.Sub, greatest, greatest, 0},
		{api.Mul, 0, 7, 0},
		{api.Mul, 3, 7, 21},
		{api.Mul, -3, 7, -21},
		{api.Mul, 3, -7, -21},
		{api.Mul, -3, -7, 21},
		{api.Mul, least, 0, 0},
		{api.Mul, least, 1, least},
		{api.Mul, least, -1, least},
		{api.Mul, -1, least, least},
		{api.Mul, least, 2, 0},
		{api.Mul, least, 3, least},
		{api.Mul, least, least, 0},
		{api.Mul, least, greatest, least},
		{api.Mul, greatest, -1, least + 1},
		{api.Mul, greatest, 2, -2},
		{api.Mul, greatest, greatest, 1},
		{api.Mul, 1 << 32, 1 << 31, least},
		{api.Mul, 1 << 32, 1 << 32, 0},
		{api.Mul, 1<<32 + 1, 1 << 32, 1 << 32},
		{api.Mul, -1 << 32, 1 << 31, least},
		{api.Mul, 1<<53 + 1, 3, 27021597764222979},
	} {
		two(t, x.op, x.a, x.b, x.want, true)
	}
}

func TestDivAndModOfNamedNumbers(t *testing.T) { // P6.2
	for _, x := range []struct {
		a, b, div, mod int
	}{
		{6, 2, 3, 0},
		{-6, 2, -3, 0},
		{6, -2, -3, 0},
		{-6, -2, 3, 0},
		{7, 2, 3, 1},
		{-7, 2, -3, -1},
		{7, -2, -3, 1},
		{-7, -2, 3, -1},
		{1, 2, 0, 1},
		{-1, 2, 0, -1},
		{1, -2, 0, 1},
		{-1, -2, 0, -1},
		{8, 3, 2, 2},
		{-8, 3, -2, -2},
		{8, -3, -2, 2},
		{-8, -3, 2, -2},
		{0, 5, 0, 0},
		{0, -5, 0, 0},
		{0, 1, 0, 0},
		{0, -1, 0, 0},
		{5, 1, 5, 0},
		{-5, 1, -5, 0},
		{5, -1, -5, 0},
		{-5, -1, 5, 0},
		{least, 1, least, 0},
		{least, -1, least, 0},
		{least + 1, -1, greatest, 0},
		{greatest, 1, greatest, 0},
		{greatest, -1, least + 1, 0},
		{least, 2, -1 << 62, 0},
		{least, -2, 1 << 62, 0},
		{least, 3, -3074457345618258602, -2},
		{least, -3, 3074457345618258602, -2},
		{greatest, 2, 1<<62 - 1, 1},
		{greatest, -2, 1 - 1<<62, 1},
		{least, least, 1, 0},
		{greatest, greatest, 1, 0},
		{least, greatest, -1, -1},
		{greatest, least, 0, greatest},
		{least + 1, least, 0, least + 1},
		{least, least + 1, 1, -1},
		{least + 1, greatest, -1, 0},
		{0, least, 0, 0},
		{1, least, 0, 1},
		{-1, least, 0, -1},
		{1, greatest, 0, 1},
		{-1, greatest, 0, -1},
		{1<<53 + 1, 1, 1<<53 + 1, 0}, // no float holds it
	} {
		two(t, api.Div, x.a, x.b, x.div, true)
		two(t, api.Mod, x.a, x.b, x.mod, true)
	}
}

func TestDivAndModByNothing(t *testing.T) { // P6.2, R7
	for _, a := range sharp() {
		two(t, api.Div, a, 0, 0, false)
		two(t, api.Mod, a, 0, 0, false)
	}
}

func TestNothingIsWrongWithOthersByNothing(t *testing.T) { // P6.2: 0 is wrong for Div and Mod alone
	for _, a := range sharp() {
		two(t, api.Add, a, 0, a, true)
		two(t, api.Sub, a, 0, a, true)
		two(t, api.Mul, a, 0, 0, true)
	}
	two(t, api.Less, 0, 0, 0, true)
	two(t, api.Same, 0, 0, 1, true)
}

func TestLessAndSameOfNamedNumbers(t *testing.T) { // P6.2
	for _, x := range []struct {
		a, b, less, same int
	}{
		{0, 0, 0, 1},
		{0, 1, 1, 0},
		{1, 0, 0, 0},
		{-1, 0, 1, 0},
		{0, -1, 0, 0},
		{1, 1, 0, 1},
		{-1, -1, 0, 1},
		{-1, 1, 1, 0},
		{1, -1, 0, 0},
		{5, 6, 1, 0},
		{6, 5, 0, 0},
		{-6, -5, 1, 0},
		{-5, -6, 0, 0},
		{-5, 5, 1, 0},
		{5, -5, 0, 0},
		{least, least, 0, 1},
		{least, least + 1, 1, 0},
		{least + 1, least, 0, 0},
		{greatest, greatest, 0, 1},
		{greatest - 1, greatest, 1, 0},
		{greatest, greatest - 1, 0, 0},
		{least, greatest, 1, 0},
		{greatest, least, 0, 0},
		{least, 0, 1, 0},
		{0, least, 0, 0},
		{least, 1, 1, 0}, // the difference would go round
		{1, least, 0, 0},
		{greatest, -1, 0, 0},
		{-1, greatest, 1, 0},
		{0, greatest, 1, 0},
		{greatest, 0, 0, 0},
		{1 << 53, 1<<53 + 1, 1, 0}, // as floats these are the same
		{1<<53 + 1, 1 << 53, 0, 0},
		{greatest - 1, greatest - 2, 0, 0},
		{1, 1<<32 + 1, 1, 0}, // of 32 bits these are the same
		{1<<32 + 1, 1, 0, 0},
		{1, least + 1, 0, 0},
	} {
		two(t, api.Less, x.a, x.b, x.less, true)
		two(t, api.Same, x.a, x.b, x.same, true)
	}
}

func TestTwoOfSharpNumbers(t *testing.T) { // P6.2
	for _, op := range twos() {
		for _, a := range sharp() {
			for _, b := range sharp() {
				want, so := reckoned(op, a, b)
				two(t, op, a, b, want, so)
			}
		}
	}
}

func TestTwoOfSmallNumbers(t *testing.T) { // P6.2
	for _, op := range twos() {
		for a := -40; a <= 40; a++ {
			for b := -40; b <= 40; b++ {
				want, so := reckoned(op, a, b)
				two(t, op, a, b, want, so)
			}
		}
	}
}

func TestTwoOfManyNumbers(t *testing.T) { // P6.2
	d := dice(1)
	for range 20000 {
		a, b := d.number(), d.number()
		for _, op := range twos() {
			want, so := reckoned(op, a, b)
			two(t, op, a, b, want, so)
		}
	}
}

func TestTwoOfOtherOperations(t *testing.T) { // P6.2, R7
	for _, op := range slices.Concat(ones(), rest(), none()) {
		for _, a := range sharp() {
			for _, b := range sharp() {
				two(t, op, a, b, 0, false)
			}
		}
	}
}

func TestOneOfNamedNumbers(t *testing.T) { // P6.2
	for _, x := range []struct {
		a, neg, not int
	}{
		{0, 0, 1},
		{1, -1, 0},
		{-1, 1, 0},
		{2, -2, 0},
		{-2, 2, 0},
		{greatest, least + 1, 0},
		{greatest - 1, least + 2, 0},
		{least, least, 0},
		{least + 1, greatest, 0},
		{least + 2, greatest - 1, 0},
		{1 << 8, -1 << 8, 0},
		{1 << 32, -1 << 32, 0},
		{-1 << 32, 1 << 32, 0},
		{1 << 62, -1 << 62, 0},
	} {
		one(t, api.Neg, x.a, x.neg)
		one(t, api.Not, x.a, x.not)
	}
}

func TestOneOfSharpNumbers(t *testing.T) { // P6.2
	for _, op := range ones() {
		for _, a := range sharp() {
			one(t, op, a, turned(op, a))
		}
		for a := -300; a <= 300; a++ {
			one(t, op, a, turned(op, a))
		}
	}
}

func TestOneOfManyNumbers(t *testing.T) { // P6.2
	d := dice(2)
	for range 20000 {
		a := d.number()
		for _, op := range ones() {
			one(t, op, a, turned(op, a))
		}
	}
}

func TestOneOfOtherOperations(t *testing.T) { // P6.2
	for _, op := range slices.Concat(twos(), rest(), none()) {
		for _, a := range sharp() {
			one(t, op, a, 0)
		}
	}
}

func TestTwoCanBeJustOfThoseThatTakeTwo(t *testing.T) { // P6.1, P6.2
	for _, op := range all() {
		if _, so := whole.Two(op, 1, 1); so != (whole.Takes(op) == 2) {
			t.Errorf("Two(%d, 1, 1) can be: %t, but it takes %d", op, so, whole.Takes(op))
		}
	}
}

// whatDivLeaves holds Div and Mod of a by b against P6.3.
func whatDivLeaves(t *testing.T, a, b int) {
	t.Helper()
	q, so := whole.Two(api.Div, a, b)
	r, left := whole.Two(api.Mod, a, b)
	if so != (b != 0) || left != so {
		t.Errorf("%d by %d: Div can be: %t, Mod can be: %t", a, b, so, left)
	}
	if !so {
		return
	}
	product, _ := whole.Two(api.Mul, q, b)
	if sum, _ := whole.Two(api.Add, product, r); sum != a {
		t.Errorf("%d by %d: %d, and %d is left: together %d", a, b, q, r, sum)
	}
	if r != 0 && (r < 0) != (a < 0) {
		t.Errorf("%d by %d: what is left, %d, is not of the sign of a", a, b, r)
	}
	if new(big.Int).Abs(big.NewInt(int64(r))).Cmp(new(big.Int).Abs(big.NewInt(int64(b)))) >= 0 {
		t.Errorf("%d by %d: what is left, %d, is not less than b", a, b, r)
	}
}

func TestDivAndModTogether(t *testing.T) { // P6.3
	for _, a := range sharp() { // -2^63 by -1, where the product goes round, is among them
		for _, b := range sharp() {
			whatDivLeaves(t, a, b)
		}
	}
	for a := -60; a <= 60; a++ {
		for b := -60; b <= 60; b++ {
			whatDivLeaves(t, a, b)
		}
	}
	d := dice(3)
	for range 20000 {
		whatDivLeaves(t, d.number(), d.number())
	}
}

func TestDivWhoseProductGoesRound(t *testing.T) { // P6.3
	q, so := whole.Two(api.Div, least, -1)
	product, _ := whole.Two(api.Mul, q, -1)
	r, left := whole.Two(api.Mod, least, -1)
	if q != least || r != 0 || product != least || !so || !left {
		t.Errorf("-2^63 by -1: %d, %t, times -1 %d, %d is left, %t", q, so, product, r, left)
	}
}

// answers is what the calls tell of an operation and two numbers.
type answers struct {
	takes, one, two int
	so              bool
}

func asked(op api.Op, a, b int) answers {
	n, so := whole.Two(op, a, b)
	return answers{whole.Takes(op), whole.One(op, a), n, so}
}

func TestCallsTellTheSameEachTime(t *testing.T) { // R4
	numbers := []int{0, 1, -1, 7, -7, least, least + 1, greatest, greatest - 1}
	var first []answers
	for round := range 5 {
		i := 0
		for _, op := range all() {
			for _, a := range numbers {
				for _, b := range numbers {
					got := asked(op, a, b)
					if round == 0 {
						first = append(first, got)
					}
					if got != first[i] || got != asked(op, a, b) {
						t.Fatalf("of %d, %d and %d two calls tell otherwise", op, a, b)
					}
					i++
				}
			}
		}
	}
}

func FuzzTwo(f *testing.F) { // P6.1, P6.2, P6.3, P1
	f.Add(int(api.Div), least, -1)
	f.Add(int(api.Mod), -7, 2)
	f.Add(int(api.Sub), 0, least)
	f.Add(int(api.Neg), least, 0)
	f.Add(-1, 1, 1)
	f.Fuzz(func(t *testing.T, n, a, b int) {
		for _, op := range []api.Op{api.Op(n), api.Op(uint(n) % uint(api.Ops))} {
			want, so := reckoned(op, a, b)
			two(t, op, a, b, want, so)
			one(t, op, a, turned(op, a))
			count := 0
			if slices.Contains(ones(), op) {
				count = 1
			}
			if slices.Contains(twos(), op) {
				count = 2
			}
			takes(t, count, op)
		}
		whatDivLeaves(t, a, b)
	})
}
