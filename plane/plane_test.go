package plane_test

import (
	"math"
	"math/big"
	"slices"
	"testing"

	"inlay/api"
	"inlay/plane"
)

const (
	least    = math.MinInt64
	greatest = math.MaxInt64
	most     = math.MaxFloat64
	tiny     = math.SmallestNonzeroFloat64
)

func inf() float64   { return math.Inf(1) }
func none() float64  { return math.NaN() }
func minus() float64 { return math.Copysign(0, -1) }

// otherNone is no number either, by other bits, and of the other sign.
func otherNone() float64 { return math.Float64frombits(0xfff0000000000123) }

// up and down tell the floats beside x.
func up(x float64) float64   { return math.Nextafter(x, inf()) }
func down(x float64) float64 { return math.Nextafter(x, -inf()) }

// dice tells numbers that look like any, the same ones each time.
type dice uint64

func (d *dice) roll(n int) int {
	*d = *d*6364136223846793005 + 1442695040888963407
	return int(*d >> 33 % dice(n))
}

// number tells one of either sign, and of any greatness.
func (d *dice) number() int {
	n := d.roll(1<<30)<<34 ^ d.roll(1<<30)<<10 ^ d.roll(1<<30)
	return n >> d.roll(64)
}

// float tells any float: of all bits, one near 1, or a sharp one.
func (d *dice) float() float64 {
	switch d.roll(4) {
	case 0:
		return math.Float64frombits(uint64(d.roll(1<<30))<<34 ^ uint64(d.roll(1<<30))<<10 ^ uint64(d.roll(1<<30)))
	case 1:
		l := sharp()
		return l[d.roll(len(l))]
	}
	return math.Ldexp(float64(d.number()), -d.roll(64))
}

func (d *dice) point() complex128 { return complex(d.float(), d.float()) }

// twos, parts and rest are the operations by what plane makes of them, told once more.
func twos() []api.Op { return []api.Op{api.Plus, api.Minus, api.Times} }

func parts() []api.Op { return []api.Op{api.Real, api.Imag} }

func rest() []api.Op {
	return []api.Op{
		api.Nop, api.Push, api.Load, api.Store, api.Pop, api.Dup,
		api.Add, api.Sub, api.Mul, api.Div, api.Mod, api.Neg, api.Less, api.Same, api.Not, api.Pair,
		api.Jump, api.If, api.Call, api.Defer, api.Ret, api.Panic, api.Recover,
		api.GetRes, api.SetRes, api.Emit, api.Trace, api.Draw, api.Open, api.Close,
	}
}

// strange tells numbers that are no operation's: both ends, those beside the operations, and some that end in an operation's bits.
func strange() []api.Op {
	l := []api.Op{
		api.Ops, api.Ops + 1, 36, 63, 64, 100, 127, 128, 255, 256, 1000, 1 << 20, math.MaxInt32, math.MaxInt32 + 1, greatest - 1, greatest,
		-1, -2, -5, -35, -36, -128, -256, math.MinInt32, math.MinInt32 - 1, least + 1, least,
	}
	for _, op := range slices.Concat(twos(), parts()) {
		l = append(l, -op, ^op)
		for _, k := range []int{6, 8, 16, 31, 32, 62} {
			l = append(l, op+1<<k, op-1<<k)
		}
		l = append(l, op+least)
	}
	return l
}

// sharp tells the floats at which something changes, each with its neighbours where it has any, of either sign.
func sharp() []float64 {
	l := []float64{0, tiny, 2 * tiny, 0x1p-1022, 0x1p-540, 0x1p-537, 0.25, 0.5, 0.75, 1, 1 + 0x1p-30, 1.5, 2, 2.5, 3, 7, 1e10, 1<<28 + 3, 0x1p511, 0x1p512, 1e200, most, inf(), none()}
	for _, x := range []float64{0.5, 1, 1 << 20, 1 << 31, 1 << 32, 1 << 52, 1 << 53, 1 << 61, 1 << 62, 1 << 63, 1 << 64, most} {
		l = append(l, down(x), x, up(x))
	}
	for _, x := range l {
		l = append(l, -x)
	}
	return append(l, otherNone())
}

// whole tells the numbers at which something changes: around 0, both ends, and around the powers of 2.
func whole() []int {
	l := []int{0, 1, -1, 2, -2, 3, -3, 5, 7, -7, 10, least, least + 1, least + 2, greatest, greatest - 1, greatest - 2}
	for _, k := range []int{8, 15, 16, 20, 31, 32, 33, 52, 53, 54, 55, 61, 62} {
		for d := -9; d <= 9; d++ {
			l = append(l, 1<<k+d, -1<<k+d)
		}
	}
	return l
}

// equal holds one float against another by its bits, but for 0 and -0, and what is no number.
func equal(x, y float64) bool {
	if math.IsNaN(x) || math.IsNaN(y) {
		return math.IsNaN(x) && math.IsNaN(y)
	}
	return math.Float64bits(x) == math.Float64bits(y) || math.Abs(x) == 0 && math.Abs(y) == 0
}

func equals(a, b complex128) bool {
	return equal(real(a), real(b)) && equal(imag(a), imag(b))
}

// exact tells x as a number of so many bits that no sum and no product of such is rounded.
func exact(x float64) *big.Float { return new(big.Float).SetPrec(2400).SetFloat64(x) }

// rounded tells the nearest float, infinite beyond the greatest one.
func rounded(x *big.Float) float64 {
	n, _ := x.Float64()
	return n
}

func finite(x, y float64) bool {
	return !math.IsNaN(x) && !math.IsNaN(y) && !math.IsInf(x, 0) && !math.IsInf(y, 0)
}

// sum tells x and y together, rounded by itself.
func sum(x, y float64) float64 {
	switch {
	case finite(x, y):
		z := exact(0)
		return rounded(z.Add(exact(x), exact(y)))
	case math.IsNaN(x), math.IsNaN(y), math.IsInf(x, 0) && math.IsInf(y, 0) && math.Signbit(x) != math.Signbit(y):
		return none()
	case math.IsInf(x, 0):
		return x
	}
	return y
}

// product tells x times y, rounded by itself.
func product(x, y float64) float64 {
	switch {
	case finite(x, y):
		z := exact(0)
		return rounded(z.Mul(exact(x), exact(y)))
	case math.IsNaN(x), math.IsNaN(y), x == 0, y == 0:
		return none()
	case math.Signbit(x) != math.Signbit(y):
		return -inf()
	}
	return inf()
}

// reckoned tells what the chapter says of Two, by numbers without an end.
func reckoned(op api.Op, a, b complex128) complex128 {
	switch op {
	case api.Plus:
		return complex(sum(real(a), real(b)), sum(imag(a), imag(b)))
	case api.Minus:
		return complex(sum(real(a), -real(b)), sum(imag(a), -imag(b)))
	case api.Times:
		re := sum(product(real(a), real(b)), -product(imag(a), imag(b)))
		im := sum(product(real(a), imag(b)), product(imag(a), real(b)))
		return complex(re, im)
	}
	return 0
}

// cut tells what the chapter says of a part, by numbers without an end.
func cut(x float64) int {
	if math.IsNaN(x) || math.IsInf(x, 0) {
		return 0
	}
	n, _ := exact(x).Int(nil)
	edge := exact(math.Ldexp(1, 62))
	if exact(math.Abs(x)).Cmp(edge) >= 0 {
		return 0
	}
	return int(n.Int64())
}

func nearest(n int) float64 {
	x, _ := new(big.Float).SetInt64(int64(n)).Float64()
	return x
}

func pair(t *testing.T, re, im int, want complex128) {
	t.Helper()
	if got := plane.Pair(re, im); !equals(got, want) {
		t.Errorf("Pair(%d, %d): %v, want %v", re, im, got, want)
	}
}

func two(t *testing.T, op api.Op, a, b, want complex128) {
	t.Helper()
	if got := plane.Two(op, a, b); !equals(got, want) {
		t.Errorf("Two(%d, %v, %v): %v, want %v", op, a, b, got, want)
	}
}

func part(t *testing.T, op api.Op, c complex128, want int) {
	t.Helper()
	if got := plane.Part(op, c); got != want {
		t.Errorf("Part(%d, %v): %d, want %d", op, c, got, want)
	}
}

func same(t *testing.T, a, b complex128, want bool) {
	t.Helper()
	if got := plane.Same(a, b); got != want {
		t.Errorf("Same(%v, %v): %t, want %t", a, b, got, want)
	}
	if got := plane.Same(b, a); got != want {
		t.Errorf("Same(%v, %v): %t, want %t", b, a, got, want)
	}
}

func TestExamples(t *testing.T) {
	i := plane.Pair(0, 1)
	two(t, api.Times, i, i, -1)
}

func TestFar(t *testing.T) { // P7.2
	if plane.Far != 4611686018427387904 {
		t.Errorf("Far is %d", int(plane.Far))
	}
}

func TestEachOperationIsAsked(t *testing.T) { // that these tests leave none out
	l := slices.Concat(twos(), parts(), rest())
	slices.Sort(l)
	for i, op := range l {
		if op != api.Op(i) {
			t.Fatalf("operation %d stands where %d should", op, i)
		}
	}
	if len(l) != int(api.Ops) {
		t.Errorf("%d operations, want %d", len(l), api.Ops)
	}
	for _, op := range strange() {
		if op >= 0 && op < api.Ops {
			t.Errorf("%d is an operation", op)
		}
	}
}

func TestPairOfNamedNumbers(t *testing.T) { // P7.1
	for _, x := range []struct {
		n    int
		want float64
	}{
		{0, 0},
		{1, 1},
		{-1, -1},
		{42, 42},
		{1<<20 - 1, 1048575},
		{1<<24 + 1, 16777217}, // a float of 32 bits would not hold it
		{1<<53 - 1, 9007199254740991},
		{1 << 53, 0x1p53},
		{1<<53 + 1, 0x1p53}, // in the middle: the even one
		{1<<53 + 2, 0x1p53 + 2},
		{1<<53 + 3, 0x1p53 + 4}, // in the middle: the even one
		{-1<<53 + 1, -9007199254740991},
		{-1 << 53, -0x1p53},
		{-1<<53 - 1, -0x1p53},
		{-1<<53 - 2, -0x1p53 - 2},
		{-1<<53 - 3, -0x1p53 - 4},
		{1<<54 + 1, 0x1p54}, // nearer to one of the two
		{1<<54 + 2, 0x1p54},
		{1<<54 + 3, 0x1p54 + 4},
		{1<<54 + 5, 0x1p54 + 4},
		{1<<54 + 6, 0x1p54 + 8},
		{-1<<54 - 1, -0x1p54},
		{-1<<54 - 3, -0x1p54 - 4},
		{1<<62 - 257, 0x1p62 - 512},
		{1<<62 - 256, 0x1p62},
		{1<<62 - 1, 0x1p62},
		{1 << 62, 0x1p62},
		{1<<62 + 512, 0x1p62},
		{1<<62 + 513, 0x1p62 + 1024},
		{greatest, 0x1p63},
		{greatest - 511, 0x1p63},
		{greatest - 512, 0x1p63 - 1024},
		{greatest - 1023, 0x1p63 - 1024},
		{least, -0x1p63},
		{least + 1, -0x1p63},
		{least + 512, -0x1p63},
		{least + 513, -0x1p63 + 1024},
		{least + 1024, -0x1p63 + 1024},
	} {
		pair(t, x.n, x.n, complex(x.want, x.want))
		pair(t, x.n, 5, complex(x.want, 5))
		pair(t, 5, x.n, complex(5, x.want))
	}
}

func TestPairOfSharpNumbers(t *testing.T) { // P7.1
	for _, re := range whole() {
		for _, im := range whole() {
			pair(t, re, im, complex(nearest(re), nearest(im)))
		}
	}
}

func TestPairOfManyNumbers(t *testing.T) { // P7.1
	d := dice(1)
	for range 20000 {
		re, im := d.number(), d.number()
		pair(t, re, im, complex(nearest(re), nearest(im)))
	}
}

func TestTwoOfNamedNumbers(t *testing.T) { // P7.1
	for _, x := range []struct {
		a, b, plus, less, times complex128
	}{
		{0, 0, 0, 0, 0},
		{complex(0, 1), complex(0, 1), complex(0, 2), 0, -1},
		{complex(1, 2), complex(3, 4), complex(4, 6), complex(-2, -2), complex(-5, 10)},
		{complex(-1, 2), complex(3, 4), complex(2, 6), complex(-4, -2), complex(-11, 2)},
		{complex(1, -2), complex(3, 4), complex(4, 2), complex(-2, -6), complex(11, -2)},
		{complex(1, 2), complex(-3, 4), complex(-2, 6), complex(4, -2), complex(-11, -2)},
		{complex(1, 2), complex(3, -4), complex(4, -2), complex(-2, 6), complex(11, 2)},
		{complex(-1, -2), complex(3, 4), complex(2, 2), complex(-4, -6), complex(5, -10)},
		{complex(1, 2), complex(-3, -4), complex(-2, -2), complex(4, 6), complex(5, -10)},
		{complex(-1, 2), complex(-3, 4), complex(-4, 6), complex(2, -2), complex(-5, -10)},
		{complex(1, -2), complex(3, -4), complex(4, -6), complex(-2, 2), complex(-5, -10)},
		{complex(-1, -2), complex(-3, -4), complex(-4, -6), complex(2, 2), complex(-5, 10)},
		{complex(0.5, 0.25), complex(2, 4), complex(2.5, 4.25), complex(-1.5, -3.75), complex(0, 2.5)},
		{complex(1, 2), 0, complex(1, 2), complex(1, 2), 0},
		{0, complex(1, 2), complex(1, 2), complex(-1, -2), 0},
		{complex(1, 2), 1, complex(2, 2), complex(0, 2), complex(1, 2)},
		{complex(1, 2), complex(minus(), minus()), complex(1, 2), complex(1, 2), 0},
		{complex(minus(), 0), complex(0, minus()), 0, 0, 0},
	} {
		two(t, api.Plus, x.a, x.b, x.plus)
		two(t, api.Minus, x.a, x.b, x.less)
		two(t, api.Times, x.a, x.b, x.times)
	}
}

func TestTwoOfInfinitePartsAndNone(t *testing.T) { // P7.1
	for _, x := range []struct {
		op         api.Op
		a, b, want complex128
	}{
		{api.Plus, complex(inf(), 1), complex(2, 3), complex(inf(), 4)},
		{api.Plus, complex(1, 2), complex(3, -inf()), complex(4, -inf())},
		{api.Plus, complex(inf(), 1), complex(inf(), 3), complex(inf(), 4)},
		{api.Plus, complex(inf(), 1), complex(-inf(), 3), complex(none(), 4)},
		{api.Plus, complex(1, -inf()), complex(2, inf()), complex(3, none())},
		{api.Plus, complex(none(), 1), complex(2, 3), complex(none(), 4)},
		{api.Plus, complex(1, 2), complex(3, none()), complex(4, none())},
		{api.Plus, complex(none(), 1), complex(inf(), 3), complex(none(), 4)},
		{api.Plus, complex(most, 1), complex(most, 2), complex(inf(), 3)},
		{api.Plus, complex(1, -most), complex(2, -most), complex(3, -inf())},
		{api.Minus, complex(inf(), 1), complex(2, 3), complex(inf(), -2)},
		{api.Minus, complex(1, 2), complex(inf(), 3), complex(-inf(), -1)},
		{api.Minus, complex(inf(), 1), complex(inf(), 3), complex(none(), -2)},
		{api.Minus, complex(inf(), 1), complex(-inf(), 3), complex(inf(), -2)},
		{api.Minus, complex(1, none()), complex(2, 3), complex(-1, none())},
		{api.Minus, complex(1, 2), complex(none(), 3), complex(none(), -1)},
		{api.Minus, complex(1, most), complex(2, -most), complex(-1, inf())},
		{api.Times, complex(inf(), 1), complex(2, 3), complex(inf(), inf())},
		{api.Times, complex(inf(), 0), complex(2, 3), complex(inf(), inf())},
		{api.Times, complex(inf(), inf()), complex(2, 3), complex(none(), inf())}, // not set right to an infinite one
		{api.Times, complex(inf(), 0), complex(1, 0), complex(inf(), none())},
		{api.Times, complex(0, inf()), complex(0, 1), complex(-inf(), none())},
		{api.Times, complex(inf(), inf()), complex(inf(), inf()), complex(none(), inf())},
		{api.Times, complex(inf(), 1), complex(0, 0), complex(none(), none())},
		{api.Times, complex(none(), 1), complex(2, 3), complex(none(), none())},
		{api.Times, complex(none(), 0), complex(0, 0), complex(none(), none())},
		{api.Times, complex(1, 2), complex(3, none()), complex(none(), none())},
	} {
		two(t, x.op, x.a, x.b, x.want)
	}
}

func TestTimesThatPassesTheGreatest(t *testing.T) { // P7.1
	great := 0x1p600
	two(t, api.Times, complex(great, 0), complex(great, 0), complex(inf(), 0))
	two(t, api.Times, complex(-great, 0), complex(great, 0), complex(-inf(), 0))
	two(t, api.Times, complex(0, great), complex(0, great), complex(-inf(), 0))
	two(t, api.Times, complex(great, great), complex(great, great), complex(none(), inf())) // re would be 0
	two(t, api.Times, complex(great, great), complex(great, -great), complex(inf(), none()))
	two(t, api.Times, complex(most, most), complex(2, 1), complex(inf(), inf())) // re would be the greatest
	two(t, api.Times, complex(most, most), complex(1, 1), complex(0, inf()))     // the sum alone passes it
	two(t, api.Times, complex(0x1p-600, 0), complex(0x1p-600, 1), complex(0, 0x1p-600))
}

// fused tells the four products that a machine would make, if it rounded just once: each with the one or the other product first.
func fused(a, b complex128) []complex128 {
	r1 := math.FMA(real(a), real(b), -product(imag(a), imag(b)))
	r2 := math.FMA(-imag(a), imag(b), product(real(a), real(b)))
	i1 := math.FMA(real(a), imag(b), product(imag(a), real(b)))
	i2 := math.FMA(imag(a), real(b), product(real(a), imag(b)))
	return []complex128{complex(r1, i1), complex(r1, i2), complex(r2, i1), complex(r2, i2)}
}

func TestTimesRoundsEachProductByItself(t *testing.T) { // P7.1
	x, y := 1+0x1p-30, float64(1<<28+3) // x times x is rounded down, y times y up
	for _, z := range []struct {
		a, b, want complex128
	}{
		{complex(x, x), complex(x, x), complex(0, 2*(1+0x1p-29))},
		{complex(x, -x), complex(x, -x), complex(0, -2*(1+0x1p-29))},
		{complex(x, x), complex(-x, x), complex(-2*(1+0x1p-29), 0)},
		{complex(y, y), complex(y, y), complex(0, 2*(0x1p56+6*0x1p28+16))},
		{complex(y, y), complex(y, -y), complex(2*(0x1p56+6*0x1p28+16), 0)},
		{complex(-y, y), complex(y, y), complex(-2*(0x1p56+6*0x1p28+16), 0)},
	} {
		two(t, api.Times, z.a, z.b, z.want)
		if slices.ContainsFunc(fused(z.a, z.b), func(f complex128) bool { return equals(f, z.want) }) {
			t.Errorf("%v times %v does not tell rounded products from others", z.a, z.b)
		}
	}
	two(t, api.Times, complex(x, 1), complex(x, 1), complex(0x1p-29, 2*x)) // one of its products is rounded
	two(t, api.Times, complex(1, x), complex(1, x), complex(-0x1p-29, 2*x))
	two(t, api.Times, complex(x, 1), complex(-1, x), complex(-2*x, 0x1p-29))
}

func TestTimesOfManyThatAreRounded(t *testing.T) { // P7.1
	d := dice(2)
	unlike := 0
	for range 20000 {
		a := plane.Pair(d.roll(1<<30)-1<<29, d.roll(1<<30)-1<<29)
		b := plane.Pair(int(real(a))+d.roll(9)-4, int(imag(a))+d.roll(9)-4)
		want := reckoned(api.Times, a, b)
		two(t, api.Times, a, b, want)
		if !slices.ContainsFunc(fused(a, b), func(f complex128) bool { return equals(f, want) }) {
			unlike++
		}
	}
	if unlike < 1000 {
		t.Errorf("only %d products tell rounded ones from others", unlike)
	}
}

// points tells complex numbers of sharp parts, with p beside each.
func points(p float64) []complex128 {
	var l []complex128
	for _, x := range sharp() {
		l = append(l, complex(x, p), complex(p, x), complex(x, x))
	}
	return l
}

func TestTwoOfSharpNumbers(t *testing.T) { // P7.1
	for _, a := range points(3) {
		for _, b := range points(-1.5) {
			for _, op := range twos() {
				two(t, op, a, b, reckoned(op, a, b))
			}
		}
	}
}

func TestTwoOfManyNumbers(t *testing.T) { // P7.1
	d := dice(3)
	for range 20000 {
		a, b := d.point(), d.point()
		for _, op := range twos() {
			two(t, op, a, b, reckoned(op, a, b))
		}
	}
}

func TestTwoOfOtherOperations(t *testing.T) { // P7.1
	l := []complex128{0, 1, complex(3, -4), complex(-0.5, 2.5), complex(inf(), 1), complex(1, none()), complex(none(), -inf()), complex(most, tiny)}
	for _, op := range slices.Concat(parts(), rest(), strange()) {
		for _, a := range l {
			for _, b := range l {
				two(t, op, a, b, 0)
			}
		}
	}
}

func TestTwoOfManyOperations(t *testing.T) { // P7.1
	for n := -3000; n < 3000; n++ {
		a, b := complex(3, -4), complex(5, 7)
		two(t, api.Op(n), a, b, reckoned(api.Op(n), a, b))
	}
}

func TestPartOfNamedNumbers(t *testing.T) { // P7.2
	for _, x := range []struct {
		part float64
		want int
	}{
		{0, 0},
		{minus(), 0},
		{1, 1},
		{-1, -1},
		{42, 42},
		{-42, -42},
		{0.25, 0},
		{-0.25, 0},
		{0.5, 0},
		{-0.5, 0},
		{0.99, 0},
		{-0.99, 0},
		{down(1), 0},
		{up(-1), 0},
		{up(1), 1},
		{down(-1), -1},
		{1.5, 1},
		{-1.5, -1},
		{2.5, 2},
		{-2.5, -2},
		{2.999, 2},
		{-2.999, -2},
		{tiny, 0},
		{-tiny, 0},
		{0x1p51 + 0.5, 1 << 51}, // beyond 2^52 no float has a fraction
		{-0x1p51 - 0.5, -1 << 51},
		{-0x1p50 - 0.75, -1 << 50},
		{0x1p31 + 0.5, 1 << 31},
		{0x1p53, 1 << 53},
		{0x1p53 + 2, 1<<53 + 2},
		{0x1p61, 1 << 61},
		{-0x1p61, -1 << 61},
		{down(0x1p62), 1<<62 - 512}, // just within
		{up(-0x1p62), -1<<62 + 512},
		{0x1p62, 0},
		{-0x1p62, 0},
		{up(0x1p62), 0},
		{down(-0x1p62), 0},
		{0x1p63, 0},
		{-0x1p63, 0},
		{0x1p64, 0},
		{0x1p64 + 0x1p20, 0},
		{-0x1p64, 0},
		{most, 0},
		{-most, 0},
		{inf(), 0},
		{-inf(), 0},
		{none(), 0},
		{otherNone(), 0},
	} {
		for _, other := range []float64{0, 7, -9.5, 0x1p62, inf(), -inf(), none()} { // the other part is not asked
			part(t, api.Real, complex(x.part, other), x.want)
			part(t, api.Imag, complex(other, x.part), x.want)
		}
	}
}

func TestPartOfSharpNumbers(t *testing.T) { // P7.2
	for _, re := range sharp() {
		for _, im := range sharp() {
			part(t, api.Real, complex(re, im), cut(re))
			part(t, api.Imag, complex(re, im), cut(im))
		}
	}
}

func TestPartOfManyNumbers(t *testing.T) { // P7.2
	d := dice(4)
	for range 50000 {
		c := d.point()
		part(t, api.Real, c, cut(real(c)))
		part(t, api.Imag, c, cut(imag(c)))
	}
}

func TestPartOfOtherOperations(t *testing.T) { // P7.2
	for _, op := range slices.Concat(twos(), rest(), strange()) {
		for _, c := range points(5) {
			part(t, op, c, 0)
		}
	}
	for n := -3000; n < 3000; n++ {
		if op := api.Op(n); !slices.Contains(parts(), op) {
			part(t, op, complex(3, -4), 0)
		}
	}
}

func TestSameOfNamedNumbers(t *testing.T) { // P7.2
	for _, x := range []struct {
		a, b complex128
		want bool
	}{
		{0, 0, true},
		{complex(1, 2), complex(1, 2), true},
		{complex(1, 2), complex(2, 1), false},
		{complex(1, 2), complex(1, -2), false},
		{complex(1, 2), complex(-1, 2), false},
		{complex(1, 2), complex(1, 3), false},
		{complex(1, 2), complex(0, 2), false},
		{complex(1, 2), complex(up(1), 2), false},
		{complex(1, 2), complex(1, down(2)), false},
		{complex(tiny, 0), 0, false},
		{complex(0, -tiny), 0, false},
		{complex(0, minus()), complex(minus(), 0), true},
		{complex(minus(), minus()), 0, true},
		{complex(minus(), 1), complex(0, 1), true},
		{complex(1, minus()), complex(1, 0), true},
		{complex(none(), none()), complex(none(), none()), true},
		{complex(none(), 1), complex(none(), 1), true},
		{complex(1, none()), complex(1, none()), true},
		{complex(none(), 1), complex(none(), 2), false},
		{complex(1, none()), complex(2, none()), false},
		{complex(none(), none()), complex(none(), 1), false},
		{complex(none(), none()), complex(1, none()), false},
		{complex(none(), 1), complex(1, none()), false},
		{complex(none(), 1), complex(1, 1), false},
		{complex(1, none()), complex(1, 1), false},
		{complex(none(), 0), 0, false},
		{complex(0, none()), 0, false},
		{complex(none(), 0), complex(inf(), 0), false},
		{complex(none(), 0), complex(otherNone(), 0), true},
		{complex(0, none()), complex(0, -otherNone()), true},
		{complex(inf(), inf()), complex(inf(), inf()), true},
		{complex(-inf(), inf()), complex(-inf(), inf()), true},
		{complex(inf(), 1), complex(-inf(), 1), false},
		{complex(1, inf()), complex(1, -inf()), false},
		{complex(inf(), 1), complex(most, 1), false},
		{complex(inf(), 1), complex(inf(), 2), false},
		{complex(inf(), none()), complex(inf(), none()), true},
		{complex(inf(), none()), complex(-inf(), none()), false},
		{complex(1<<53, 0), complex(1<<53+2, 0), false},
	} {
		same(t, x.a, x.b, x.want)
	}
}

func TestSameOfSharpNumbers(t *testing.T) { // P7.2
	for _, p := range []float64{3, none(), inf()} {
		l := points(p)
		for _, a := range l {
			for _, b := range l {
				same(t, a, b, equals(a, b))
			}
		}
	}
}

func TestSameOfManyNumbers(t *testing.T) { // P7.2
	d := dice(5)
	for range 20000 {
		a, b := d.point(), d.point()
		same(t, a, a, true)
		same(t, a, b, equals(a, b))
		c := complex(real(a), imag(b))
		same(t, a, c, equal(imag(a), imag(b)))
		same(t, b, c, equal(real(a), real(b)))
	}
}

// just holds what plane makes of whole parts against whole numbers.
func just(t *testing.T, p, q, r, s int) {
	t.Helper()
	a, b := plane.Pair(p, q), plane.Pair(r, s)
	for _, x := range []struct {
		op     api.Op
		re, im int
	}{
		{api.Plus, p + r, q + s},
		{api.Minus, p - r, q - s},
		{api.Times, p*r - q*s, p*s + q*r},
	} {
		c := plane.Two(x.op, a, b)
		part(t, api.Real, c, x.re)
		part(t, api.Imag, c, x.im)
		same(t, c, plane.Pair(x.re, x.im), true)
		same(t, c, plane.Pair(x.re+1, x.im), false)
		same(t, c, plane.Pair(x.re, x.im-1), false)
	}
	part(t, api.Real, a, p)
	part(t, api.Imag, a, q)
}

func TestWholePartsAreReckonedWithJust(t *testing.T) { // P7.3
	end := 1<<20 - 1
	l := []int{0, 1, -1, 2, -3, 1 << 10, 1<<10 + 1, -1 << 19, 1<<19 + 1, end - 1, -end + 1, end, -end}
	for _, p := range l {
		for _, q := range l {
			for _, r := range l {
				for _, s := range l {
					just(t, p, q, r, s)
				}
			}
		}
	}
}

func TestManyWholePartsAreReckonedWithJust(t *testing.T) { // P7.3
	d := dice(6)
	any := func() int { return d.roll(1<<21-1) - (1<<20 - 1) }
	for range 20000 {
		just(t, any(), any(), any(), any())
	}
}

// answers is what the calls tell of an operation and two complex numbers, by their bits.
type answers struct {
	pair, two [2]uint64
	part      int
	same      bool
}

func bits(c complex128) [2]uint64 {
	return [2]uint64{math.Float64bits(real(c)), math.Float64bits(imag(c))}
}

func asked(op api.Op, a, b complex128) answers {
	return answers{bits(plane.Pair(cut(real(a)), cut(imag(b)))), bits(plane.Two(op, a, b)), plane.Part(op, a), plane.Same(a, b)}
}

func TestCallsTellTheSameEachTime(t *testing.T) { // R4
	l := []complex128{0, complex(minus(), 0), complex(3, -4), complex(1+0x1p-30, 1.5), complex(inf(), 1), complex(1, -inf()), complex(none(), 1), complex(most, -tiny), complex(0x1p62, -0x1p61)}
	var first []answers
	for round := range 5 {
		i := 0
		for _, op := range slices.Concat(twos(), parts(), rest(), strange()) {
			for _, a := range l {
				for _, b := range l {
					got := asked(op, a, b)
					if round == 0 {
						first = append(first, got)
					}
					if got != first[i] || got != asked(op, a, b) {
						t.Fatalf("of %d, %v and %v two calls tell otherwise", op, a, b)
					}
					i++
				}
			}
		}
	}
}

func FuzzPlane(f *testing.F) { // P7.1, P7.2, P1
	f.Add(int(api.Times), 1<<53+1, 0.0, 1.0, 0.0, 1.0)
	f.Add(int(api.Plus), least, inf(), none(), minus(), -inf())
	f.Add(int(api.Minus), greatest, most, tiny, -most, -tiny)
	f.Add(int(api.Real), -1, 0x1p62, -0x1p62, 2.5, -2.5)
	f.Add(-1, 1, 1.0, 1.0, 1.0, 1.0)
	f.Fuzz(func(t *testing.T, n, m int, p, q, r, s float64) {
		a, b := complex(p, q), complex(r, s)
		for _, op := range []api.Op{api.Op(n), api.Op(uint(n) % uint(api.Ops)), api.Plus, api.Minus, api.Times} {
			two(t, op, a, b, reckoned(op, a, b))
			if !slices.Contains(parts(), op) {
				part(t, op, a, 0)
			}
		}
		part(t, api.Real, a, cut(p))
		part(t, api.Imag, a, cut(q))
		same(t, a, b, equals(a, b))
		pair(t, n, m, complex(nearest(n), nearest(m)))
	})
}
