package uvar_test

import (
	"bytes"
	"math"
	"math/big"
	"slices"
	"testing"

	"inlay/api"
	"inlay/uvar"
)

// laid tells by division what the chapter says that n is laid as.
func laid(n uint64) []byte {
	var b []byte
	left, base, digit := new(big.Int).SetUint64(n), big.NewInt(128), new(big.Int)
	for {
		left.DivMod(left, base, digit)
		if left.Sign() == 0 {
			return append(b, byte(digit.Int64()))
		}
		b = append(b, byte(digit.Int64()+128))
	}
}

// folded tells by reckoning without an end what the chapter says that n is folded to.
func folded(n int) uint64 {
	x := big.NewInt(int64(n))
	x.Mul(x, big.NewInt(2))
	if n < 0 {
		x.Neg(x).Sub(x, big.NewInt(1))
	}
	return x.Uint64()
}

// numbers tells small ones, and those around each power of 2, and some between.
func numbers() []uint64 {
	var l []uint64
	for n := range uint64(20000) {
		l = append(l, n)
	}
	for k := range 64 {
		for d := range uint64(5) {
			l = append(l, 1<<k+d-2)
		}
	}
	n := uint64(1)
	for k := range 20000 {
		n = n*6364136223846793005 + 1442695040888963407
		l = append(l, n>>(k%64))
	}
	return l
}

// signed tells numbers of both signs, and both ends.
func signed() []int {
	l := []int{math.MinInt, math.MinInt + 1, math.MaxInt - 1, math.MaxInt}
	for _, u := range numbers() {
		l = append(l, int(u), -int(u))
	}
	return l
}

// filled tells k bytes c, and others behind them.
func filled(k int, c byte, behind ...byte) []byte {
	return append(bytes.Repeat([]byte{c}, k), behind...)
}

func TestPutOfNamedNumbers(t *testing.T) { // P1.1
	for _, x := range []struct {
		n    uint64
		want []byte
	}{
		{0, []byte{0}},
		{1, []byte{1}},
		{127, []byte{127}},
		{128, []byte{128, 1}},
		{129, []byte{129, 1}},
		{255, []byte{255, 1}},
		{256, []byte{128, 2}},
		{300, []byte{172, 2}},
		{16383, []byte{255, 127}},
		{16384, []byte{128, 128, 1}},
		{1<<63 - 1, filled(8, 255, 127)},
		{1 << 63, filled(9, 128, 1)},
		{math.MaxUint64, filled(9, 255, 1)},
	} {
		if got := uvar.Put(nil, x.n); !bytes.Equal(got, x.want) {
			t.Errorf("Put(nil, %d): %v, want %v", x.n, got, x.want)
		}
		if got := uvar.Size(x.n); got != len(x.want) {
			t.Errorf("Size(%d): %d, want %d", x.n, got, len(x.want))
		}
	}
}

func TestPutAndSizeOfMany(t *testing.T) { // P1.1
	for _, n := range numbers() {
		want := laid(n)
		if got := uvar.Put(nil, n); !bytes.Equal(got, want) {
			t.Fatalf("Put(nil, %d): %v, want %v", n, got, want)
		}
		if got := uvar.Size(n); got != len(want) {
			t.Fatalf("Size(%d): %d, want %d", n, got, len(want))
		}
	}
}

func TestSizeIsAtMostMost(t *testing.T) { // P1.1
	if uvar.Most != 10 || uvar.Size(math.MaxUint64) != uvar.Most {
		t.Errorf("Most: %d, Size of the greatest: %d, want 10 of both", uvar.Most, uvar.Size(math.MaxUint64))
	}
	for _, n := range numbers() {
		if k := uvar.Size(n); k < 1 || k > uvar.Most {
			t.Fatalf("Size(%d): %d", n, k)
		}
	}
}

func TestPutStandsBehindWhatIsThere(t *testing.T) { // P1.1, R3
	for _, n := range []uint64{0, 127, 128, 300, 1 << 40, math.MaxUint64} {
		for room := range 12 {
			ahead := []byte{7, 128, 0}
			b := append(make([]byte, 0, len(ahead)+room), ahead...)
			if got, want := uvar.Put(b, n), append(slices.Clone(ahead), laid(n)...); !bytes.Equal(got, want) {
				t.Errorf("Put(%v, %d) with room for %d: %v, want %v", ahead, n, room, got, want)
			}
			if !bytes.Equal(b, ahead) {
				t.Errorf("Put(.., %d) with room for %d changed what is ahead to %v", n, room, b)
			}
		}
	}
	if nothing, empty := uvar.Put(nil, 300), uvar.Put([]byte{}, 300); !bytes.Equal(nothing, empty) {
		t.Errorf("behind nil %v, behind an empty list %v", nothing, empty)
	}
}

func TestPutLeavesTheRoomBeyondItsBytes(t *testing.T) { // R3
	for room := range 14 {
		whole := filled(2, 1, filled(room, 99)...)
		got := uvar.Put(whole[:2:len(whole)], 1<<20)
		for i := 2; i < len(whole); i++ {
			mayBeWritten := room >= 3 && i < len(got)
			if !mayBeWritten && whole[i] != 99 {
				t.Errorf("with room for %d byte %d behind the list was written", room, i)
			}
		}
	}
}

func TestPutKeepsNothing(t *testing.T) { // R3
	b := []byte{1, 2}[:2:2]
	got := uvar.Put(b, 300)
	b[0], b[1] = 50, 60
	if want := []byte{1, 2, 172, 2}; !bytes.Equal(got, want) {
		t.Errorf("an answer of new memory changed with the list handed in: %v, want %v", got, want)
	}
	first, second := uvar.Put(nil, 300), uvar.Put(nil, 300)
	first[0] = 9
	if second[0] != 172 {
		t.Errorf("two answers share memory")
	}
}

func TestGetOfNamedBytes(t *testing.T) { // P1.2
	for _, x := range []struct {
		name string
		b    []byte
		n    uint64
		size int
		err  api.Errno
	}{
		{"nil", nil, 0, 0, api.ErrShort},
		{"empty", []byte{}, 0, 0, api.ErrShort},
		{"0", []byte{0}, 0, 1, api.OK},
		{"1", []byte{1}, 1, 1, api.OK},
		{"127", []byte{127}, 127, 1, api.OK},
		{"128", []byte{128, 1}, 128, 2, api.OK},
		{"300", []byte{172, 2}, 300, 2, api.OK},
		{"300 with bytes behind", []byte{172, 2, 9, 255}, 300, 2, api.OK},
		{"0 with bytes behind", []byte{0, 0, 128}, 0, 1, api.OK},
		{"one that says more follows", []byte{128}, 0, 0, api.ErrShort},
		{"nine that say more follow", filled(9, 255), 0, 0, api.ErrShort},
		{"last one 0, two bytes", []byte{128, 0}, 0, 0, api.ErrLong},
		{"last one 0, three bytes", []byte{172, 130, 0}, 0, 0, api.ErrLong},
		{"last one 0, with bytes behind", []byte{255, 0, 255, 1}, 0, 0, api.ErrLong},
		{"last one 0, the ninth", filled(8, 255, 0), 0, 0, api.ErrLong},
		{"last one 0, the tenth", filled(9, 255, 0), 0, 0, api.ErrLong},
		{"nine bytes", filled(8, 255, 127), 1<<63 - 1, 9, api.OK},
		{"ninth above 1", filled(8, 128, 2), 1 << 57, 9, api.OK},
		{"tenth 1", filled(9, 128, 1), 1 << 63, 10, api.OK},
		{"the greatest", filled(9, 255, 1), math.MaxUint64, 10, api.OK},
		{"the greatest with bytes behind", filled(9, 255, 1, 255, 0), math.MaxUint64, 10, api.OK},
		{"tenth 2", filled(9, 255, 2), 0, 0, api.ErrForm},
		{"tenth 127", filled(9, 128, 127), 0, 0, api.ErrForm},
		{"tenth says more, none follow", filled(10, 128), 0, 0, api.ErrForm},
		{"tenth says more, 0 follows", filled(10, 128, 0), 0, 0, api.ErrForm},
		{"tenth says more, 1 follows", filled(9, 255, 129, 1), 0, 0, api.ErrForm},
		{"a hundred that say more", filled(100, 255), 0, 0, api.ErrForm},
	} {
		n, size, err := uvar.Get(x.b)
		if n != x.n || size != x.size || err != x.err {
			t.Errorf("%s: Get(%v): %d, %d, %d, want %d, %d, %d", x.name, x.b, n, size, err, x.n, x.size, x.err)
		}
	}
}

func TestGetOfEachTenthByte(t *testing.T) { // P1.2
	for c := range 256 {
		want := api.ErrForm
		switch c {
		case 0:
			want = api.ErrLong
		case 1:
			want = api.OK
		}
		for _, b := range [][]byte{filled(9, 255, byte(c)), filled(9, 128, byte(c), 0), filled(9, 200, byte(c), 128, 1)} {
			if _, _, err := uvar.Get(b); err != want {
				t.Errorf("Get(%v): %d, want %d", b, err, want)
			}
		}
	}
}

func TestGetSeesNoRoomBehindTheList(t *testing.T) { // P1.2
	b := []byte{172, 2, 9}
	if n, size, err := uvar.Get(b[:1]); n != 0 || size != 0 || err != api.ErrShort {
		t.Errorf("Get: %d, %d, %d, want 0, 0, ErrShort", n, size, err)
	}
}

func TestGetChangesNothing(t *testing.T) { // R3
	for _, b := range [][]byte{{172, 2, 9}, {128, 0}, {128}, {0}, filled(9, 255, 1, 5), filled(12, 255)} {
		room := append(slices.Clone(b), 77, 88)
		was := slices.Clone(room)
		uvar.Get(room[:len(b)])
		uvar.GetInt(room[:len(b)])
		if !bytes.Equal(room, was) {
			t.Errorf("%v became %v", was, room)
		}
	}
}

func TestFoldOfNamedNumbers(t *testing.T) { // P1.3
	for _, x := range []struct {
		n int
		u uint64
	}{
		{0, 0}, {-1, 1}, {1, 2}, {-2, 3}, {2, 4}, {63, 126}, {-64, 127}, {64, 128},
		{math.MaxInt, math.MaxUint64 - 1}, {math.MinInt, math.MaxUint64}, {math.MinInt + 1, math.MaxUint64 - 2},
	} {
		if got := uvar.Fold(x.n); got != x.u {
			t.Errorf("Fold(%d): %d, want %d", x.n, got, x.u)
		}
		if got := uvar.Unfold(x.u); got != x.n {
			t.Errorf("Unfold(%d): %d, want %d", x.u, got, x.n)
		}
	}
}

func TestFoldOfMany(t *testing.T) { // P1.3
	for _, n := range signed() {
		if got, want := uvar.Fold(n), folded(n); got != want {
			t.Fatalf("Fold(%d): %d, want %d", n, got, want)
		}
		if got := uvar.Unfold(folded(n)); got != n {
			t.Fatalf("Unfold of what %d is folded to: %d", n, got)
		}
	}
	for _, u := range numbers() {
		if got := uvar.Fold(uvar.Unfold(u)); got != u {
			t.Fatalf("Fold(Unfold(%d)): %d", u, got)
		}
	}
}

func TestPutIntOfMany(t *testing.T) { // P1.3, P1.4
	for _, n := range signed() {
		bytesOf := laid(folded(n))
		if got, want := uvar.PutInt([]byte{5}, n), append([]byte{5}, bytesOf...); !bytes.Equal(got, want) {
			t.Fatalf("PutInt([5], %d): %v, want %v", n, got, want)
		}
		for _, behind := range [][]byte{nil, {0}, {255, 255}} {
			got, size, err := uvar.GetInt(append(slices.Clone(bytesOf), behind...))
			if got != n || size != len(bytesOf) || err != api.OK {
				t.Fatalf("GetInt of %d, behind it %v: %d, %d, %d", n, behind, got, size, err)
			}
		}
	}
}

func TestPutIntLeavesWhatIsAhead(t *testing.T) { // P1.3, R3
	b := append(make([]byte, 0, 20), 3, 200)
	got := uvar.PutInt(b, math.MinInt)
	if want := append([]byte{3, 200}, filled(9, 255, 1)...); !bytes.Equal(got, want) || !bytes.Equal(b, []byte{3, 200}) {
		t.Errorf("PutInt: %v, want %v; what is ahead: %v", got, want, b)
	}
}

func TestGetIntOfWrongBytes(t *testing.T) { // P1.3
	for _, x := range []struct {
		b   []byte
		err api.Errno
	}{
		{nil, api.ErrShort},
		{[]byte{129}, api.ErrShort},
		{filled(9, 255), api.ErrShort},
		{[]byte{129, 0}, api.ErrLong},
		{filled(9, 255, 0), api.ErrLong},
		{filled(9, 255, 2), api.ErrForm},
		{filled(11, 255), api.ErrForm},
	} {
		if n, size, err := uvar.GetInt(x.b); n != 0 || size != 0 || err != x.err {
			t.Errorf("GetInt(%v): %d, %d, %d, want 0, 0, %d", x.b, n, size, err, x.err)
		}
	}
}

func TestWhatWasPutIsGot(t *testing.T) { // P1.4
	for _, n := range numbers() {
		b := uvar.Put(nil, n)
		for _, behind := range [][]byte{nil, {0}, {1}, {127}, {128}, {255, 255, 0}, filled(12, 255)} {
			got, size, err := uvar.Get(append(slices.Clone(b), behind...))
			if got != n || size != len(b) || err != api.OK {
				t.Fatalf("Get of %d, behind it %v: %d, %d, %d", n, behind, got, size, err)
			}
		}
		for k := range b {
			if got, size, err := uvar.Get(b[:k]); got != 0 || size != 0 || err != api.ErrShort {
				t.Fatalf("Get of %d bytes of %d's: %d, %d, %d", k, n, got, size, err)
			}
		}
	}
}

func TestWhatWasPutInARowIsGotInARow(t *testing.T) { // P1.4
	var b []byte
	for _, n := range numbers() {
		b = uvar.Put(b, n)
	}
	for _, n := range numbers() {
		got, size, err := uvar.Get(b)
		if got != n || err != api.OK {
			t.Fatalf("Get: %d, %d, want %d", got, err, n)
		}
		b = b[size:]
	}
	if len(b) != 0 {
		t.Errorf("%d bytes are left", len(b))
	}
}

// gotIsPut holds b against the chapter: what is got of it is just what is put, and all that is put is got.
func gotIsPut(t *testing.T, b []byte) {
	t.Helper()
	n, size, err := uvar.Get(b)
	if err != api.OK {
		if n != 0 || size != 0 {
			t.Fatalf("Get(%v): %d, %d beside error %d", b, n, size, err)
		}
		return
	}
	if !bytes.Equal(uvar.Put(nil, n), b[:size]) {
		t.Fatalf("Get(%v): %d of %d bytes, but that is put as %v", b, n, size, uvar.Put(nil, n))
	}
}

func TestBytesThatAreGotArePut(t *testing.T) { // P1.4
	for i := range 1 << 16 {
		gotIsPut(t, []byte{byte(i), byte(i >> 8)})
		gotIsPut(t, []byte{128, byte(i), byte(i >> 8)})
		gotIsPut(t, filled(8, 255, byte(i), byte(i>>8)))
		gotIsPut(t, filled(9, 128, byte(i), byte(i>>8)))
	}
}

func FuzzGet(f *testing.F) { // P1.4, P1
	for _, b := range [][]byte{nil, {0}, {172, 2}, {128, 0}, filled(9, 255, 1), filled(9, 255, 2), filled(20, 128)} {
		f.Add(b)
	}
	f.Fuzz(func(t *testing.T, b []byte) {
		was := slices.Clone(b)
		gotIsPut(t, b)
		n, size, err := uvar.GetInt(b)
		if err == api.OK && !bytes.Equal(uvar.PutInt(nil, n), b[:size]) {
			t.Fatalf("GetInt(%v): %d, but that is put as %v", b, n, uvar.PutInt(nil, n))
		}
		if !bytes.Equal(b, was) {
			t.Fatalf("%v became %v", was, b)
		}
	})
}
