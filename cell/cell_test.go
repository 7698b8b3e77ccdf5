package cell_test

import (
	"math"
	"math/big"
	"slices"
	"testing"

	"inlay/api"
	"inlay/cell"
	"inlay/plane"
	"inlay/whole"
)

const (
	least    = math.MinInt64
	greatest = math.MaxInt64
	most     = math.MaxFloat64
	tiny     = math.SmallestNonzeroFloat64
)

func inf() float64   { return math.Inf(1) }
func none() float64  { return math.NaN() }
func minus() float64 { return math.Copysign(0, -1) }

// otherNone is no number either, by other bits, and of the other sign.
func otherNone() float64 { return math.Float64frombits(0xfff0000000000123) }

// up and down tell the floats beside x.
func up(x float64) float64   { return math.Nextafter(x, inf()) }
func down(x float64) float64 { return math.Nextafter(x, -inf()) }

// dice tells numbers that look like any, the same ones each time.
type dice uint64

func (d *dice) roll(n int) int {
	*d = *d*6364136223846793005 + 1442695040888963407
	return int(*d >> 33 % dice(n))
}

// number tells one of either sign, and of any greatness.
func (d *dice) number() int {
	n := d.roll(1<<30)<<34 ^ d.roll(1<<30)<<10 ^ d.roll(1<<30)
	return n >> d.roll(64)
}

// float tells any float: of all bits, one near 1, or a sharp one.
func (d *dice) float() float64 {
	switch d.roll(4) {
	case 0:
		return math.Float64frombits(uint64(d.roll(1<<30))<<34 ^ uint64(d.roll(1<<30))<<10 ^ uint64(d.roll(1<<30)))
	case 1:
		l := floats()
		return l[d.roll(len(l))]
	}
	return math.Ldexp(float64(d.number()), -d.roll(64))
}

func (d *dice) point() complex128 { return complex(d.float(), d.float()) }

// value tells any value: of either Kind or of none, its other field 0 or not.
func (d *dice) value() api.Value {
	kinds := []api.Type{api.Int, api.Int, api.Cx, api.Cx, 0, 3}
	v := api.Value{Kind: kinds[d.roll(len(kinds))]}
	if v.Kind != api.Cx || d.roll(3) == 0 {
		v.N = d.number()
	}
	if v.Kind != api.Int || d.roll(3) == 0 {
		v.C = d.point()
	}
	return v
}

// The operations by what they take, and those that Do does not do, told once more.
func twoNumbers() []api.Op {
	return []api.Op{api.Add, api.Sub, api.Mul, api.Div, api.Mod, api.Less, api.Same}
}

func oneNumber() []api.Op { return []api.Op{api.Neg, api.Not} }

func twoPoints() []api.Op { return []api.Op{api.Plus, api.Minus, api.Times} }

func onePoint() []api.Op { return []api.Op{api.Real, api.Imag} }

func done() []api.Op {
	return slices.Concat(twoNumbers(), oneNumber(), []api.Op{api.Pair}, twoPoints(), onePoint())
}

func rest() []api.Op {
	return []api.Op{
		api.Nop, api.Push, api.Load, api.Store, api.Pop, api.Dup,
		api.Jump, api.If, api.Call, api.Defer, api.Ret, api.Panic, api.Recover,
		api.GetRes, api.SetRes, api.Emit, api.Trace, api.Draw, api.Open, api.Close,
	}
}

// strange tells numbers that are no operation's: both ends, those beside the operations, and some that end in an operation's bits.
func strange() []api.Op {
	l := []api.Op{
		api.Ops, api.Ops + 1, 36, 63, 64, 100, 127, 128, 255, 256, 1000, 1 << 20, math.MaxInt32, math.MaxInt32 + 1, greatest - 1, greatest,
		-1, -2, -5, -35, -36, -128, -256, math.MinInt32, math.MinInt32 - 1, least + 1, least,
	}
	for _, op := range done() {
		l = append(l, -op, ^op)
		for _, k := range []int{6, 8, 16, 31, 32, 62} {
			l = append(l, op+1<<k, op-1<<k)
		}
		l = append(l, op+least)
	}
	return l
}

// needs tells the Kinds of the values that op takes, the first one lying deepest.
func needs(op api.Op) []api.Type {
	switch {
	case slices.Contains(twoNumbers(), op), op == api.Pair:
		return []api.Type{api.Int, api.Int}
	case slices.Contains(oneNumber(), op):
		return []api.Type{api.Int}
	case slices.Contains(twoPoints(), op):
		return []api.Type{api.Cx, api.Cx}
	case slices.Contains(onePoint(), op):
		return []api.Type{api.Cx}
	}
	return nil
}

// numbers tells those at which something changes: around 0, both ends, and around some powers of 2.
func numbers() []int {
	l := []int{0, 1, -1, 2, -2, 3, 7, -7, 9, 10, -10, least, least + 1, greatest, greatest - 1}
	for _, k := range []int{8, 31, 32, 53, 62} {
		l = append(l, 1<<k-1, 1<<k, 1<<k+1, -1<<k-1, -1<<k, -1<<k+1)
	}
	return l
}

// floats tells those at which something changes, of either sign.
func floats() []float64 {
	l := []float64{0, tiny, 0.5, down(1), 1, up(1), 2.5, 3, 1 << 20, 1<<53 + 2, down(0x1p62), 0x1p62, up(0x1p62), 0x1p63, 0x1p64, most, inf(), none()}
	for _, x := range l {
		l = append(l, -x)
	}
	return append(l, otherNone())
}

// points tells complex numbers with each sharp float at either place.
func points() []complex128 {
	var l []complex128
	for _, x := range floats() {
		l = append(l, complex(x, 0), complex(0, x), complex(x, -3.5), complex(7, x), complex(x, x))
	}
	return l
}

// noTypes tells numbers that are no type: below, above, and at their ends.
func noTypes() []api.Type {
	return []api.Type{0, 3, 4, 5, -1, -2, -3, 127, 128, 255, 256, 257, 258, -255, -254, 1 << 16, 1<<16 + 1, 1<<16 + 2, 1<<32 + 1, 1<<32 + 2, math.MaxInt32, math.MinInt32, greatest, greatest - 1, least, least + 1, least + 2}
}

// equal holds one float against another by its bits, but for 0 and -0, and what is no number.
func equal(x, y float64) bool {
	if math.IsNaN(x) || math.IsNaN(y) {
		return math.IsNaN(x) && math.IsNaN(y)
	}
	return math.Float64bits(x) == math.Float64bits(y) || math.Abs(x) == 0 && math.Abs(y) == 0
}

func equals(a, b complex128) bool {
	return equal(real(a), real(b)) && equal(imag(a), imag(b))
}

// alike holds one value against another in all of its fields.
func alike(a, b api.Value) bool {
	return a.Kind == b.Kind && a.N == b.N && equals(a.C, b.C)
}

func allAlike(a, b []api.Value) bool { return slices.EqualFunc(a, b, alike) }

// num and cx tell values as the chapter says they are, made by hand.
func num(n int) api.Value { return api.Value{Kind: api.Int, N: n} }

func cx(c complex128) api.Value { return api.Value{Kind: api.Cx, C: c} }

// plain tells values of a Kind, their other field 0.
func plain(k api.Type) []api.Value {
	if k == api.Int {
		return []api.Value{num(0), num(1), num(-1), num(7), num(-2), num(least), num(greatest)}
	}
	return []api.Value{cx(0), cx(1), cx(complex(2, -3)), cx(complex(-0.5, 2.75)), cx(complex(inf(), 1)), cx(complex(1, none())), cx(complex(0x1p62, -0x1p61))}
}

// filled tells v with its other field filled, in several ways.
func filled(v api.Value) []api.Value {
	l := []api.Value{v}
	if v.Kind != api.Int {
		for _, n := range []int{1, -1, 9, least, greatest} {
			l = append(l, api.Value{Kind: v.Kind, N: n, C: v.C})
		}
	}
	if v.Kind != api.Cx {
		for _, c := range []complex128{1, complex(0, 1), complex(minus(), 0), complex(4, -5), complex(inf(), 0), complex(0, none())} {
			l = append(l, api.Value{Kind: v.Kind, N: v.N, C: c})
		}
	}
	return l
}

// wrong tells values that are not of the Kind k: of the other one, and of none, whatever their fields.
func wrong(k api.Type) []api.Value {
	other := api.Int + api.Cx - k
	l := plain(other)
	for _, n := range []int{0, 1} {
		for _, c := range []complex128{0, complex(1, 1)} {
			l = append(l, api.Value{Kind: other, N: n, C: c})
			for _, t := range noTypes() {
				l = append(l, api.Value{Kind: t, N: n, C: c})
			}
		}
	}
	return l
}

func is(t *testing.T, v api.Value, k api.Type, want bool) {
	t.Helper()
	if got := cell.Is(v, k); got != want {
		t.Errorf("Is(%v, %d): %t, want %t", v, k, got, want)
	}
}

func same(t *testing.T, a, b api.Value, want bool) {
	t.Helper()
	if got := cell.Same(a, b); got != want {
		t.Errorf("Same(%v, %v): %t, want %t", a, b, got, want)
	}
	if got := cell.Same(b, a); got != want {
		t.Errorf("Same(%v, %v): %t, want %t", b, a, got, want)
	}
}

func text(t *testing.T, v api.Value, want string) {
	t.Helper()
	if got := cell.Text(v); got != want {
		t.Errorf("Text(%v): %q, want %q", v, got, want)
	}
}

// makes holds what Do tells against one value, all of its fields among it.
func makes(t *testing.T, want api.Value, op api.Op, l ...api.Value) {
	t.Helper()
	if got, ok := cell.Do(op, l...); !ok || !allAlike(got, []api.Value{want}) {
		t.Errorf("Do(%d, %v): %v, %t, want %v, true", op, l, got, ok, want)
	}
}

// makesNothing holds what Do tells against nothing, and false.
func makesNothing(t *testing.T, op api.Op, l ...api.Value) {
	t.Helper()
	if got, ok := cell.Do(op, l...); ok || len(got) != 0 {
		t.Errorf("Do(%d, %v): %v, %t, want nothing, false", op, l, got, ok)
	}
}

// reckoned tells what the chapter says of Do, by whole and plane.
func reckoned(op api.Op, l ...api.Value) (api.Value, bool) {
	var kinds []api.Type
	for _, v := range l {
		kinds = append(kinds, v.Kind)
	}
	want := needs(op)
	if len(want) == 0 || !slices.Equal(kinds, want) {
		return api.Value{}, false
	}
	switch {
	case op == api.Pair:
		return cx(plane.Pair(l[0].N, l[1].N)), true
	case slices.Contains(oneNumber(), op):
		return num(whole.One(op, l[0].N)), true
	case slices.Contains(twoPoints(), op):
		return cx(plane.Two(op, l[0].C, l[1].C)), true
	case slices.Contains(onePoint(), op):
		return num(plane.Part(op, l[0].C)), true
	}
	n, ok := whole.Two(op, l[0].N, l[1].N)
	if !ok {
		return api.Value{}, false
	}
	return num(n), true
}

// asReckoned holds what Do tells against what the chapter says.
func asReckoned(t *testing.T, op api.Op, l ...api.Value) {
	t.Helper()
	if want, ok := reckoned(op, l...); ok {
		makes(t, want, op, l...)
	} else {
		makesNothing(t, op, l...)
	}
}

func TestExamples(t *testing.T) {
	makes(t, num(3), api.Add, cell.Num(1), cell.Num(2))
	text(t, cell.Point(plane.Pair(1, -2)), "(1,-2)")
}

func TestEachOperationIsAsked(t *testing.T) { // that these tests leave none out
	l := slices.Concat(done(), rest())
	slices.Sort(l)
	for i, op := range l {
		if op != api.Op(i) {
			t.Fatalf("operation %d stands where %d should", op, i)
		}
	}
	if len(l) != int(api.Ops) {
		t.Errorf("%d operations, want %d", len(l), api.Ops)
	}
	for _, op := range strange() {
		if op >= 0 && op < api.Ops {
			t.Errorf("%d is an operation", op)
		}
	}
	for _, k := range noTypes() {
		if k == api.Int || k == api.Cx {
			t.Errorf("%d is a type", k)
		}
	}
}

func TestNum(t *testing.T) { // P8.1
	for _, n := range numbers() {
		if got := cell.Num(n); !alike(got, num(n)) {
			t.Errorf("Num(%d): %v", n, got)
		}
		is(t, cell.Num(n), api.Int, true)
	}
}

func TestPoint(t *testing.T) { // P8.1
	for _, c := range points() {
		if got := cell.Point(c); !alike(got, cx(c)) {
			t.Errorf("Point(%v): %v", c, got)
		}
		is(t, cell.Point(c), api.Cx, true)
	}
}

func TestZero(t *testing.T) { // P8.1
	if got := cell.Zero(api.Int); !alike(got, num(0)) {
		t.Errorf("Zero(Int): %v", got)
	}
	if got := cell.Zero(api.Cx); !alike(got, cx(0)) {
		t.Errorf("Zero(Cx): %v", got)
	}
	for _, k := range noTypes() {
		if got := cell.Zero(k); got != (api.Value{}) {
			t.Errorf("Zero(%d): %v", k, got)
		}
	}
}

func TestIsOfNamedValues(t *testing.T) { // P8.1, R7
	for _, x := range []struct {
		v       api.Value
		int, cx bool
	}{
		{api.Value{Kind: api.Int}, true, false},
		{api.Value{Kind: api.Int, N: 5}, true, false},
		{api.Value{Kind: api.Int, N: least}, true, false},
		{api.Value{Kind: api.Int, N: greatest}, true, false},
		{api.Value{Kind: api.Int, C: 1}, false, false},
		{api.Value{Kind: api.Int, N: 5, C: 1}, false, false},
		{api.Value{Kind: api.Int, N: 5, C: complex(0, 1)}, false, false}, // an imaginary part alone
		{api.Value{Kind: api.Int, N: 5, C: complex(0, -tiny)}, false, false},
		{api.Value{Kind: api.Int, N: 5, C: complex(tiny, 0)}, false, false},
		{api.Value{Kind: api.Int, N: 5, C: complex(minus(), 0)}, true, false},
		{api.Value{Kind: api.Int, N: 5, C: complex(0, minus())}, true, false},
		{api.Value{Kind: api.Int, N: 5, C: complex(minus(), minus())}, true, false},
		{api.Value{Kind: api.Int, N: 5, C: complex(none(), 0)}, false, false},
		{api.Value{Kind: api.Int, N: 5, C: complex(0, none())}, false, false},
		{api.Value{Kind: api.Int, N: 5, C: complex(0, inf())}, false, false},
		{api.Value{Kind: api.Int, N: 5, C: complex(0.5, 0)}, false, false}, // a part that is told as 0
		{api.Value{Kind: api.Int, N: 5, C: complex(0, 0x1p62)}, false, false},
		{api.Value{Kind: api.Cx}, false, true},
		{api.Value{Kind: api.Cx, C: complex(1, 2)}, false, true},
		{api.Value{Kind: api.Cx, C: complex(0, 2)}, false, true},
		{api.Value{Kind: api.Cx, C: complex(none(), inf())}, false, true},
		{api.Value{Kind: api.Cx, N: 1}, false, false},
		{api.Value{Kind: api.Cx, N: -1, C: complex(1, 2)}, false, false},
		{api.Value{Kind: api.Cx, N: least, C: complex(1, 2)}, false, false},
		{api.Value{Kind: api.Cx, N: 1 << 32, C: complex(1, 2)}, false, false},
		{api.Value{Kind: api.Cx, N: greatest}, false, false},
		{api.Value{}, false, false},
		{api.Value{N: 5}, false, false},
		{api.Value{C: 5}, false, false},
		{api.Value{N: 5, C: 5}, false, false},
	} {
		is(t, x.v, api.Int, x.int)
		is(t, x.v, api.Cx, x.cx)
		for _, k := range noTypes() {
			is(t, x.v, k, false)
		}
	}
}

func TestIsOfValuesOfNoKind(t *testing.T) { // P8.1: nor are they of what is no type
	for _, k := range noTypes() {
		for _, v := range filled(api.Value{Kind: k}) {
			is(t, v, api.Int, false)
			is(t, v, api.Cx, false)
			for _, asked := range noTypes() {
				is(t, v, asked, false)
			}
		}
	}
}

func TestIsOfManyValues(t *testing.T) { // P8.1
	d := dice(1)
	for range 20000 {
		v := d.value()
		is(t, v, api.Int, v.Kind == api.Int && equals(v.C, 0))
		is(t, v, api.Cx, v.Kind == api.Cx && v.N == 0)
		is(t, v, 0, false)
		is(t, v, 3, false)
	}
}

func TestSameOfNumbers(t *testing.T) { // P8.1
	for _, a := range numbers() {
		for _, b := range numbers() {
			same(t, num(a), num(b), a == b)
		}
		for _, v := range filled(num(a)) { // C does not count
			same(t, v, num(a), true)
			same(t, v, num(a+1), false)
		}
	}
}

func TestSameOfPoints(t *testing.T) { // P8.1
	for _, a := range points() {
		for _, b := range points() {
			same(t, cx(a), cx(b), equals(a, b))
		}
		for _, v := range filled(cx(a)) { // N does not count
			same(t, v, cx(a), true)
			same(t, v, cx(complex(123, imag(a))), false)
			same(t, v, cx(complex(real(a), 123)), false)
		}
	}
}

func TestSameOfNamedPoints(t *testing.T) { // P8.1, R7
	for _, x := range []struct {
		a, b complex128
		want bool
	}{
		{0, complex(minus(), minus()), true},
		{complex(0, minus()), complex(minus(), 0), true},
		{complex(none(), 1), complex(none(), 1), true},
		{complex(none(), 1), complex(otherNone(), 1), true},
		{complex(1, none()), complex(1, none()), true},
		{complex(none(), none()), complex(none(), none()), true},
		{complex(none(), none()), complex(none(), 1), false},
		{complex(none(), 1), complex(1, 1), false},
		{complex(1, none()), complex(1, 1), false},
		{complex(1, none()), complex(none(), 1), false},
		{complex(none(), 1), complex(none(), 2), false},
		{complex(inf(), 1), complex(inf(), 1), true},
		{complex(inf(), 1), complex(-inf(), 1), false},
		{complex(1, 2), complex(2, 1), false},
		{complex(1, 2), complex(1, up(2)), false},
		{complex(1.25, 2), complex(1.5, 2), false}, // their digits are the same
	} {
		same(t, cx(x.a), cx(x.b), x.want)
	}
}

func TestSameOfTwoKinds(t *testing.T) { // P8.1
	kinds := append([]api.Type{api.Int, api.Cx}, noTypes()...)
	for i, a := range kinds {
		for j, b := range kinds {
			for _, n := range []int{0, 1, least} {
				for _, c := range []complex128{0, 1, complex(none(), 0)} {
					same(t, api.Value{Kind: a, N: n, C: c}, api.Value{Kind: b, N: n, C: c}, i == j)
				}
			}
		}
	}
}

func TestSameOfNoKind(t *testing.T) { // P8.1: of all but Cx the number is N
	for _, k := range noTypes() {
		for _, a := range numbers() {
			for _, b := range numbers() {
				same(t, api.Value{Kind: k, N: a}, api.Value{Kind: k, N: b}, a == b)
			}
		}
		for _, v := range filled(api.Value{Kind: k, N: 5}) {
			same(t, v, api.Value{Kind: k, N: 5, C: v.C}, v.N == 5)
			same(t, v, api.Value{Kind: k, N: 5}, v.N == 5)
		}
	}
}

func TestSameOfManyValues(t *testing.T) { // P8.1
	d := dice(2)
	for range 20000 {
		a, b := d.value(), d.value()
		same(t, a, a, true)
		number := a.N == b.N
		if a.Kind == api.Cx {
			number = equals(a.C, b.C)
		}
		same(t, a, b, a.Kind == b.Kind && number)
	}
}

func row(t *testing.T, l []api.Type, want ...api.Value) {
	t.Helper()
	if got := cell.Row(l); !allAlike(got, want) {
		t.Errorf("Row(%v): %v, want %v", l, got, want)
	}
}

func TestRow(t *testing.T) { // P8.1, R3
	row(t, nil)
	row(t, []api.Type{})
	row(t, []api.Type{api.Int}, num(0))
	row(t, []api.Type{api.Cx}, cx(0))
	row(t, []api.Type{0}, api.Value{})
	row(t, []api.Type{api.Int, api.Cx, api.Int}, num(0), cx(0), num(0))
	row(t, []api.Type{api.Cx, 3, -1, api.Int, 0}, cx(0), api.Value{}, api.Value{}, num(0), api.Value{})
	for _, k := range noTypes() {
		row(t, []api.Type{api.Int, k, api.Cx}, num(0), api.Value{}, cx(0))
	}
}

func TestRowOfManyTypes(t *testing.T) { // P8.1
	d := dice(3)
	for _, n := range []int{2, 10, 256, 257, 3000} {
		var l []api.Type
		var want []api.Value
		for range n {
			k := api.Type(d.roll(4))
			l = append(l, k)
			want = append(want, [4]api.Value{{}, num(0), cx(0), {}}[k])
		}
		row(t, l, want...)
	}
}

func TestTextOfNumbers(t *testing.T) { // P8.2
	for _, x := range []struct {
		n    int
		want string
	}{
		{0, "0"},
		{1, "1"},
		{-1, "-1"},
		{9, "9"},
		{10, "10"},
		{-10, "-10"},
		{1234567, "1234567"},
		{-1234567, "-1234567"},
		{1 << 62, "4611686018427387904"},
		{1<<53 + 1, "9007199254740993"},
		{greatest, "9223372036854775807"},
		{least, "-9223372036854775808"},
		{least + 1, "-9223372036854775807"},
	} {
		for _, v := range filled(num(x.n)) {
			text(t, v, x.want)
		}
	}
	for _, n := range numbers() {
		text(t, num(n), big.NewInt(int64(n)).String())
	}
}

func TestTextOfPoints(t *testing.T) { // P8.2
	for _, x := range []struct {
		c    complex128
		want string
	}{
		{0, "(0,0)"},
		{complex(1, 2), "(1,2)"},
		{complex(1, -2), "(1,-2)"},
		{complex(-1, 2), "(-1,2)"},
		{complex(-1, -2), "(-1,-2)"},
		{complex(0, 7), "(0,7)"},
		{complex(7, 0), "(7,0)"},
		{complex(minus(), minus()), "(0,0)"},
		{complex(minus(), 3), "(0,3)"},
		{complex(0.5, -0.5), "(0,0)"},
		{complex(2.75, -2.75), "(2,-2)"},
		{complex(-down(1), up(1)), "(0,1)"},
		{complex(1234567, -10), "(1234567,-10)"},
		{complex(1e18, -1e6), "(1000000000000000000,-1000000)"},
		{complex(down(0x1p62), up(-0x1p62)), "(4611686018427387392,-4611686018427387392)"},
		{complex(0x1p62, 5), "(0,5)"},
		{complex(5, -0x1p62), "(5,0)"},
		{complex(-0x1p62, 0x1p62), "(0,0)"},
		{complex(up(0x1p62), down(-0x1p62)), "(0,0)"},
		{complex(0x1p63, -3), "(0,-3)"},
		{complex(most, -most), "(0,0)"},
		{complex(inf(), 3), "(0,3)"},
		{complex(3, -inf()), "(3,0)"},
		{complex(none(), -4), "(0,-4)"},
		{complex(-4, none()), "(-4,0)"},
		{complex(none(), inf()), "(0,0)"},
	} {
		for _, v := range filled(cx(x.c)) {
			text(t, v, x.want)
		}
	}
}

func TestTextOfManyPoints(t *testing.T) { // P8.2
	d := dice(4)
	for range 20000 {
		c := d.point()
		re, im := plane.Part(api.Real, c), plane.Part(api.Imag, c)
		text(t, cx(c), "("+big.NewInt(int64(re)).String()+","+big.NewInt(int64(im)).String()+")")
	}
}

func TestTextOfOtherKinds(t *testing.T) { // P8.2
	for _, k := range noTypes() {
		for _, n := range []int{0, 5} {
			for _, v := range filled(api.Value{Kind: k, N: n}) {
				text(t, v, "?")
			}
		}
	}
}

func TestDoOfNamedNumbers(t *testing.T) { // P8.3; the order of the values counts
	for _, x := range []struct {
		op         api.Op
		a, b, want int
	}{
		{api.Add, 1, 2, 3},
		{api.Add, 5, -7, -2},
		{api.Add, greatest, 1, least}, // sums and products that go round
		{api.Add, least, least, 0},
		{api.Sub, 5, 3, 2},
		{api.Sub, 3, 5, -2},
		{api.Sub, least, 1, greatest},
		{api.Sub, 0, least, least},
		{api.Mul, 6, -7, -42},
		{api.Mul, 1 << 32, 1 << 32, 0},
		{api.Mul, greatest, 2, -2},
		{api.Mul, least, -1, least},
		{api.Div, 7, 2, 3},
		{api.Div, 2, 7, 0},
		{api.Div, -7, 2, -3},
		{api.Div, 0, 7, 0},
		{api.Div, least, -1, least},
		{api.Mod, 7, 2, 1},
		{api.Mod, 2, 7, 2},
		{api.Mod, -7, 2, -1},
		{api.Mod, least, -1, 0},
		{api.Less, 1, 2, 1},
		{api.Less, 2, 1, 0},
		{api.Less, 1, 1, 0},
		{api.Less, least, greatest, 1},
		{api.Same, 4, 4, 1},
		{api.Same, 4, -4, 0},
		{api.Same, 0, 0, 1},
	} {
		makes(t, num(x.want), x.op, num(x.a), num(x.b))
	}
	for _, x := range []struct {
		op      api.Op
		a, want int
	}{
		{api.Neg, 0, 0},
		{api.Neg, 5, -5},
		{api.Neg, -5, 5},
		{api.Neg, least, least},
		{api.Neg, greatest, least + 1},
		{api.Not, 0, 1},
		{api.Not, 1, 0},
		{api.Not, -1, 0},
		{api.Not, least, 0},
	} {
		makes(t, num(x.want), x.op, num(x.a))
	}
}

func TestDoOfNamedPoints(t *testing.T) { // P8.3; the order of the values counts
	a, b := complex(1, 2), complex(3, -4)
	makes(t, cx(complex(4, -2)), api.Plus, cx(a), cx(b))
	makes(t, cx(complex(-2, 6)), api.Minus, cx(a), cx(b))
	makes(t, cx(complex(2, -6)), api.Minus, cx(b), cx(a))
	makes(t, cx(complex(11, 2)), api.Times, cx(a), cx(b))
	makes(t, cx(-1), api.Times, cx(complex(0, 1)), cx(complex(0, 1)))
	makes(t, cx(complex(none(), 2)), api.Minus, cx(complex(inf(), 3)), cx(complex(inf(), 1)))
	makes(t, cx(complex(1, 2)), api.Pair, num(1), num(2))
	makes(t, cx(complex(2, 1)), api.Pair, num(2), num(1))
	makes(t, cx(complex(-0x1p63, 0x1p63)), api.Pair, num(least), num(greatest))
	makes(t, num(3), api.Real, cx(b))
	makes(t, num(-4), api.Imag, cx(b))
	makes(t, num(-2), api.Real, cx(complex(-2.75, 5)))
	makes(t, num(0), api.Imag, cx(complex(5, 0.75)))
	makes(t, num(0), api.Real, cx(complex(0x1p62, 5)))
	makes(t, num(5), api.Imag, cx(complex(none(), 5)))
	makes(t, num(0), api.Real, cx(complex(none(), 5)))
}

func TestDoByNothing(t *testing.T) { // P8.3, R7
	for _, n := range numbers() {
		for _, v := range filled(num(n)) {
			for _, zero := range filled(num(0)) { // its C does not count
				makesNothing(t, api.Div, v, zero)
				makesNothing(t, api.Mod, v, zero)
			}
		}
		makes(t, num(n), api.Add, num(n), num(0))
		makes(t, num(n), api.Sub, num(n), num(0))
		makes(t, num(0), api.Mul, num(n), num(0))
	}
}

func TestDoOfSharpNumbers(t *testing.T) { // P8.3
	for _, a := range numbers() {
		for _, op := range oneNumber() {
			asReckoned(t, op, num(a))
		}
		for _, b := range numbers() {
			for _, op := range append(twoNumbers(), api.Pair) {
				asReckoned(t, op, num(a), num(b))
			}
		}
	}
}

func TestDoOfSharpPoints(t *testing.T) { // P8.3
	for _, a := range points() {
		for _, op := range onePoint() {
			asReckoned(t, op, cx(a))
		}
		for _, b := range points() {
			for _, op := range twoPoints() {
				asReckoned(t, op, cx(a), cx(b))
			}
		}
	}
}

func TestDoByKindAlone(t *testing.T) { // P8.3: the other field is not asked, and is 0 in the answer
	for _, op := range done() {
		kinds := needs(op)
		for _, a := range plain(kinds[0]) {
			for _, first := range filled(a) {
				if len(kinds) == 1 {
					asReckoned(t, op, first)
					continue
				}
				for _, b := range plain(kinds[1]) {
					for _, second := range filled(b) {
						asReckoned(t, op, first, second)
					}
				}
			}
		}
	}
}

func TestDoAnswersAValueThatMayBe(t *testing.T) { // P8.3: the answer is a value that may be, by Is
	for _, op := range done() {
		kinds, gives := needs(op), api.Int
		if op == api.Pair || slices.Contains(twoPoints(), op) {
			gives = api.Cx
		}
		var l []api.Value
		for _, k := range kinds {
			l = append(l, api.Value{Kind: k, N: 3, C: complex(5, -6)})
		}
		got, ok := cell.Do(op, l...)
		if !ok || len(got) != 1 {
			t.Errorf("Do(%d, %v): %v, %t", op, l, got, ok)
			continue
		}
		is(t, got[0], gives, true)
	}
}

func TestDoOfWrongKinds(t *testing.T) { // P8.3
	for _, op := range done() {
		kinds := needs(op)
		for place, k := range kinds {
			for _, v := range wrong(k) {
				l := []api.Value{num(1), num(1)}[:len(kinds)]
				if k == api.Cx {
					l = []api.Value{cx(1), cx(1)}[:len(kinds)]
				}
				asReckoned(t, op, l...)
				l[place] = v
				makesNothing(t, op, l...)
			}
		}
		for _, v := range wrong(kinds[0]) { // at all places at once
			makesNothing(t, op, slices.Repeat([]api.Value{v}, len(kinds))...)
		}
	}
}

func TestDoOfWrongCounts(t *testing.T) { // P8.3
	for _, op := range done() {
		count := len(needs(op))
		for _, v := range []api.Value{num(1), num(0), cx(1), cx(0), {}} {
			for n := range 7 {
				if n != count {
					makesNothing(t, op, slices.Repeat([]api.Value{v}, n)...)
				}
			}
		}
		makesNothing(t, op)
		makesNothing(t, op, []api.Value{}...)
		makesNothing(t, op, num(1), num(2), cx(1))
		makesNothing(t, op, cx(1), num(1), num(2))
		makesNothing(t, op, slices.Repeat([]api.Value{num(1)}, 1000)...)
	}
}

func TestDoOfOtherOperations(t *testing.T) { // P8.3
	for _, op := range slices.Concat(rest(), strange()) {
		makesNothing(t, op)
		for _, a := range []api.Value{num(1), num(0), cx(1), cx(0), {}} {
			makesNothing(t, op, a)
			for _, b := range []api.Value{num(1), num(0), cx(1), cx(0), {}} {
				makesNothing(t, op, a, b)
				makesNothing(t, op, a, b, a)
			}
		}
	}
	for n := -3000; n < 3000; n++ {
		if op := api.Op(n); !slices.Contains(done(), op) {
			makesNothing(t, op)
			makesNothing(t, op, num(1))
			makesNothing(t, op, num(1), num(2))
			makesNothing(t, op, cx(1), cx(2))
		}
	}
}

func TestDoOfManyValues(t *testing.T) { // P8.3
	d := dice(5)
	for range 5000 {
		l := []api.Value{d.value(), d.value(), d.value()}[:d.roll(4)]
		for _, op := range slices.Concat(done(), rest()) {
			asReckoned(t, op, l...)
		}
		a, b := api.Value{Kind: api.Int, N: d.number()}, api.Value{Kind: api.Int, N: d.number()}
		p, q := cx(d.point()), cx(d.point())
		for _, op := range done() {
			asReckoned(t, op, a)
			asReckoned(t, op, a, b)
			asReckoned(t, op, p)
			asReckoned(t, op, p, q)
		}
	}
}

func TestDoLeavesWhatIsHandedIn(t *testing.T) { // R3, also behind the list's end
	for _, op := range slices.Concat(done(), rest(), strange()) {
		for _, k := range []api.Type{api.Int, api.Cx, 0} {
			for n := range 4 {
				room := slices.Repeat([]api.Value{{Kind: k, N: 3, C: complex(5, -6)}}, 6)
				before := slices.Clone(room)
				cell.Do(op, room[:n]...)
				if !allAlike(room, before) {
					t.Fatalf("Do(%d, %v) leaves %v", op, before[:n], room)
				}
			}
		}
	}
}

func TestDoAnswersNewMemory(t *testing.T) { // R3
	for _, op := range done() {
		var l []api.Value
		for _, k := range needs(op) {
			l = append(l, api.Value{Kind: k, N: 3, C: complex(5, -6)})
		}
		l = append(l, num(77), num(78))
		before, n := slices.Clone(l), len(needs(op))
		want, _ := reckoned(op, l[:n]...)
		first, _ := cell.Do(op, l[:n]...)
		second, _ := cell.Do(op, l[:n]...)
		for i := range first {
			first[i] = num(99)
		}
		first = append(first, num(98), num(97))
		if !allAlike(l, before) {
			t.Errorf("of Do(%d) the answer was changed, and with it what was handed in", op)
		}
		for i := range l {
			l[i] = num(96)
		}
		if !allAlike(second, []api.Value{want}) {
			t.Errorf("of Do(%d) another answer, or what was handed in, was changed, and with it the answer", op)
		}
		makes(t, want, op, before[:n]...)
	}
}

func TestRowAnswersNewMemory(t *testing.T) { // R3, also behind the list's end
	room := []api.Type{api.Int, api.Cx, 0, api.Int, api.Cx}
	before := slices.Clone(room)
	want := []api.Value{num(0), cx(0), {}}
	first, second := cell.Row(room[:3]), cell.Row(room[:3])
	for i := range first {
		first[i] = num(99)
	}
	first = append(first, num(98), num(97))
	if !slices.Equal(room, before) {
		t.Errorf("Row leaves %v of %v", room, before)
	}
	for i := range room {
		room[i] = 7
	}
	if !allAlike(second, want) {
		t.Errorf("another answer, or what was handed in, was changed, and with it a row: %v", second)
	}
	row(t, before[:3], want...)
}

// answers is what the calls tell of two values, but for those that tell a list.
type answers struct {
	is, same bool
	text     string
	zero     api.Value
}

func asked(a, b api.Value) answers {
	return answers{cell.Is(a, b.Kind), cell.Same(a, b), cell.Text(a), cell.Zero(a.Kind)}
}

func TestCallsTellTheSameEachTime(t *testing.T) { // R4
	l := slices.Concat(plain(api.Int), plain(api.Cx), filled(num(4)), filled(cx(complex(1, none()))), filled(api.Value{}), filled(api.Value{Kind: 3, N: 2}))
	var first []answers
	var made [][]api.Value
	for round := range 3 {
		i, j := 0, 0
		for _, a := range l {
			for _, b := range l {
				if round == 0 {
					first = append(first, asked(a, b))
				}
				if asked(a, b) != first[i] {
					t.Fatalf("of %v and %v two calls tell otherwise", a, b)
				}
				i++
				for _, op := range slices.Concat(done(), []api.Op{api.Nop, api.Close, -1}) {
					got, ok := cell.Do(op, a, b)
					if round == 0 {
						made = append(made, got)
					}
					if !allAlike(got, made[j]) || ok != (len(got) == 1) {
						t.Fatalf("of %d, %v and %v two calls tell otherwise", op, a, b)
					}
					j++
				}
			}
		}
	}
}

func FuzzDo(f *testing.F) { // P8.1, P8.2, P8.3, P1
	f.Add(int(api.Div), 1, least, 0.0, 0.0, 1, -1, 0.0, 0.0)
	f.Add(int(api.Mod), 1, 7, 0.0, 1.0, 1, 0, 1.0, 0.0)
	f.Add(int(api.Times), 2, 0, inf(), none(), 2, 5, minus(), 1.0)
	f.Add(int(api.Real), 2, 1, 0x1p62, -0x1p62, 0, 0, 0.0, 0.0)
	f.Add(-1, 3, 1, 1.0, 1.0, 3, 1, 1.0, 1.0)
	f.Fuzz(func(t *testing.T, o, k, n int, p, q float64, l, m int, r, s float64) {
		a := api.Value{Kind: api.Type(k), N: n, C: complex(p, q)}
		b := api.Value{Kind: api.Type(l), N: m, C: complex(r, s)}
		for _, op := range []api.Op{api.Op(o), api.Op(uint(o) % uint(api.Ops))} {
			asReckoned(t, op)
			asReckoned(t, op, a)
			asReckoned(t, op, a, b)
			asReckoned(t, op, b, a)
			asReckoned(t, op, a, b, a)
			asReckoned(t, op, num(n), num(m))
			asReckoned(t, op, cx(a.C), cx(b.C))
		}
		same(t, a, a, true)
		same(t, num(n), num(m), n == m)
		same(t, cx(a.C), cx(b.C), equals(a.C, b.C))
		is(t, a, api.Int, k == 1 && equals(a.C, 0))
		is(t, a, api.Cx, k == 2 && n == 0)
		text(t, num(n), big.NewInt(int64(n)).String())
		row(t, []api.Type{api.Int, api.Cx}, num(0), cx(0))
	})
}
