package slots_test

import (
	"math"
	"math/big"
	"slices"
	"testing"

	"inlay/api"
	"inlay/slots"
)

// plain is a set, told once more: which of the slots are in it.
type plain [api.MaxSlots]bool

// set tells what api says that the set of p's slots is.
func (p plain) set() api.Set {
	var s api.Set
	for n, in := range p {
		if in {
			s[n/64] |= 1 << (n % 64)
		}
	}
	return s
}

// list tells p's slots.
func (p plain) list() []int {
	var l []int
	for n, in := range p {
		if in {
			l = append(l, n)
		}
	}
	return l
}

// made tells a plain set of slots.
func made(l ...int) plain {
	var p plain
	for _, n := range l {
		p[n] = true
	}
	return p
}

// chosen tells a plain set of the slots that fit.
func chosen(fits func(n int) bool) plain {
	var p plain
	for n := range p {
		p[n] = fits(n)
	}
	return p
}

func full() plain { return chosen(func(int) bool { return true }) }

// dice tells numbers that look like any, the same ones each time.
type dice uint64

func (d *dice) roll(n int) int {
	*d = *d*6364136223846793005 + 1442695040888963407
	return int(*d >> 33 % dice(n))
}

// some tells sets: none and all slots, ends of words, and any.
func some() []plain {
	l := []plain{
		made(), full(),
		made(0), made(255), made(0, 255),
		made(63), made(64), made(63, 64), made(127, 128), made(191, 192),
		made(3, 70), made(62, 63, 64, 65, 126, 127, 128, 129, 190, 191, 192, 193, 254, 255),
		chosen(func(n int) bool { return n < 64 }),
		chosen(func(n int) bool { return n >= 192 }),
		chosen(func(n int) bool { return n != 0 }),
		chosen(func(n int) bool { return n != 255 }),
		chosen(func(n int) bool { return n%2 == 0 }),
		chosen(func(n int) bool { return n%2 == 1 }),
	}
	d := dice(3)
	for k := range 12 {
		l = append(l, chosen(func(int) bool { return d.roll(k+2) == 0 }))
	}
	return l
}

// noSlots tells numbers that are none, the least and the greatest too, and such as a slot's with more bits.
func noSlots() []int {
	l := []int{-1, -2, -63, -64, -65, -128, -255, -256, -257, 256, 257, 319, 320, 511, 512, 1000, 65535, -65535}
	for k := 8; k < 63; k++ {
		l = append(l, 1<<k, 1<<k+3, 1<<k+255, -1<<k, -1<<k+3, -1<<k-3)
	}
	l = slices.DeleteFunc(l, func(n int) bool { return n >= 0 && n < api.MaxSlots })
	for k := range 300 {
		l = append(l, math.MinInt+k, math.MaxInt-k)
	}
	return l
}

// same holds a set against the plain one that is asked.
func same(t *testing.T, what string, got api.Set, want plain) {
	t.Helper()
	if got != want.set() {
		t.Errorf("%s: %x, want slots %v", what, got, want.list())
	}
}

func TestExample(t *testing.T) {
	s := slots.Of(3, 70)
	if !slots.Has(s, 70) {
		t.Errorf("of 3 and 70 it has not 70")
	}
	same(t, "Move of 3 and 70 by -5", slots.Move(s, -5), made(65))
}

func TestHasOfEachSlotAlone(t *testing.T) { // P3.1
	for n := range api.MaxSlots {
		alone := made(n).set()
		others := chosen(func(k int) bool { return k != n }).set()
		for k := -600; k <= 900; k++ {
			if got := slots.Has(alone, k); got != (k == n) {
				t.Fatalf("Has of %d alone, and %d: %t", n, k, got)
			}
			if got, want := slots.Has(others, k), k != n && k >= 0 && k < api.MaxSlots; got != want {
				t.Fatalf("Has of all but %d, and %d: %t", n, k, got)
			}
		}
	}
}

func TestWithAndWithoutEachSlot(t *testing.T) { // P3.1
	for _, p := range some() {
		for n := range api.MaxSlots {
			more, less := p, p
			more[n], less[n] = true, false
			same(t, "With", slots.With(p.set(), n), more)
			same(t, "Without", slots.Without(p.set(), n), less)
			same(t, "With twice", slots.With(slots.With(p.set(), n), n), more)
			same(t, "Without twice", slots.Without(slots.Without(p.set(), n), n), less)
			same(t, "With, and Without", slots.Without(slots.With(p.set(), n), n), less)
			same(t, "Without, and With", slots.With(slots.Without(p.set(), n), n), more)
		}
	}
}

func TestNumbersThatAreNoSlotsCountForNothing(t *testing.T) { // P3.1
	for _, n := range noSlots() {
		for _, p := range some() {
			if slots.Has(p.set(), n) {
				t.Errorf("Has of %v, and %d", p.list(), n)
			}
			same(t, "With of no slot", slots.With(p.set(), n), p)
			same(t, "Without of no slot", slots.Without(p.set(), n), p)
		}
		same(t, "Of no slot", slots.Of(n), made())
		same(t, "Of no slot, twice", slots.Of(n, n), made())
		same(t, "Of slots with none between", slots.Of(n, 3, n, 70, n), made(3, 70))
		same(t, "Of the ends with none between", slots.Of(0, n, 255), made(0, 255))
	}
	same(t, "Of no slots", slots.Of(noSlots()...), made())
}

func TestOfNamedLists(t *testing.T) { // P3.1
	for name, x := range map[string]struct {
		l    []int
		want plain
	}{
		"nil":            {nil, made()},
		"empty":          {[]int{}, made()},
		"0":              {[]int{0}, made(0)},
		"255":            {[]int{255}, made(255)},
		"one twice":      {[]int{7, 7}, made(7)},
		"one again":      {[]int{7, 200, 7, 64, 7}, made(7, 64, 200)},
		"falling":        {[]int{255, 192, 191, 128, 127, 64, 63, 0}, made(0, 63, 64, 127, 128, 191, 192, 255)},
		"ends of a word": {[]int{63, 64}, made(63, 64)},
		"all":            {full().list(), full()},
	} {
		same(t, name, slots.Of(x.l...), x.want)
	}
	same(t, "without a number", slots.Of(), made())
}

func TestOfManyLists(t *testing.T) { // P3.1
	for _, p := range some() {
		l := p.list()
		same(t, "Of", slots.Of(l...), p)
		slices.Reverse(l)
		same(t, "Of falling ones", slots.Of(l...), p)
		same(t, "Of all of them twice", slots.Of(append(l, l...)...), p)
	}
}

func TestTwoSetsOfAnyKind(t *testing.T) { // P3.1
	for _, p := range some() {
		for _, q := range some() {
			a, b := p.set(), q.set()
			same(t, "Or", slots.Or(a, b), chosen(func(n int) bool { return p[n] || q[n] }))
			same(t, "Sub", slots.Sub(a, b), chosen(func(n int) bool { return p[n] && !q[n] }))
			want := !slices.ContainsFunc(p.list(), func(n int) bool { return !q[n] })
			if got := slots.Inside(a, b); got != want {
				t.Errorf("Inside of %v and %v: %t", p.list(), q.list(), got)
			}
		}
	}
}

func TestTwoSetsWithNoneAllAndTheSame(t *testing.T) { // P3.1
	none, all := made(), full()
	for _, p := range some() {
		rest := chosen(func(n int) bool { return !p[n] })
		same(t, "Or with none", slots.Or(p.set(), none.set()), p)
		same(t, "Or of none", slots.Or(none.set(), p.set()), p)
		same(t, "Or with all", slots.Or(p.set(), all.set()), all)
		same(t, "Or of all", slots.Or(all.set(), p.set()), all)
		same(t, "Or of the same", slots.Or(p.set(), p.set()), p)
		same(t, "Sub of none from it", slots.Sub(p.set(), none.set()), p)
		same(t, "Sub of it from none", slots.Sub(none.set(), p.set()), none)
		same(t, "Sub of all from it", slots.Sub(p.set(), all.set()), none)
		same(t, "Sub of it from all", slots.Sub(all.set(), p.set()), rest)
		same(t, "Sub of the same", slots.Sub(p.set(), p.set()), none)
		if !slots.Inside(none.set(), p.set()) || !slots.Inside(p.set(), all.set()) || !slots.Inside(p.set(), p.set()) {
			t.Errorf("none is inside %v, it inside all, and inside itself", p.list())
		}
		if slots.Inside(p.set(), none.set()) != (p == none) || slots.Inside(all.set(), p.set()) != (p == all) {
			t.Errorf("%v is inside none, or all inside it, if it is none or all alone", p.list())
		}
	}
}

func TestInsideHangsOnEachSlot(t *testing.T) { // P3.1
	for n := range api.MaxSlots {
		alone, others := made(n).set(), chosen(func(k int) bool { return k != n }).set()
		if slots.Inside(alone, others) || slots.Inside(others, alone) || slots.Inside(full().set(), others) {
			t.Errorf("%d alone, all others, and all are not inside each other", n)
		}
		if !slots.Inside(alone, alone) || !slots.Inside(others, full().set()) {
			t.Errorf("%d alone is inside itself, all others inside all", n)
		}
	}
}

func TestCount(t *testing.T) { // P3.1
	if none, all := slots.Count(api.Set{}), slots.Count(full().set()); none != 0 || all != 256 {
		t.Errorf("Count of none: %d, of all: %d", none, all)
	}
	for n := range api.MaxSlots {
		if got := slots.Count(made(n).set()); got != 1 {
			t.Errorf("Count of %d alone: %d", n, got)
		}
		if got := slots.Count(chosen(func(k int) bool { return k < n }).set()); got != n {
			t.Errorf("Count of those below %d: %d", n, got)
		}
	}
	for _, p := range some() {
		if got := slots.Count(p.set()); got != len(p.list()) {
			t.Errorf("Count of %v: %d", p.list(), got)
		}
	}
}

func TestRangeOfNamedNumbers(t *testing.T) { // P3.2
	none, all := made(), full()
	for _, x := range []struct {
		from, to int
		want     plain
	}{
		{0, 0, none},
		{0, 1, made(0)},
		{255, 256, made(255)},
		{255, 255, none},
		{256, 256, none},
		{63, 64, made(63)},
		{64, 65, made(64)},
		{63, 65, made(63, 64)},
		{126, 130, made(126, 127, 128, 129)},
		{5, 4, none},
		{255, 0, none},
		{0, 256, all},
		{-1, 257, all},
		{-1, 0, none},
		{-1, 1, made(0)},
		{-5, -1, none},
		{-1, -5, none},
		{256, 300, none},
		{300, 400, none},
		{254, 400, made(254, 255)},
		{math.MinInt, math.MaxInt, all},
		{math.MaxInt, math.MinInt, none},
		{math.MinInt, math.MinInt, none},
		{math.MaxInt, math.MaxInt, none},
		{math.MinInt, 0, none},
		{math.MinInt, 2, made(0, 1)},
		{math.MinInt, -1, none},
		{0, math.MinInt, none},
		{0, math.MaxInt, all},
		{255, math.MaxInt, made(255)},
		{256, math.MaxInt, none},
		{math.MaxInt - 1, math.MaxInt, none},
		{math.MaxInt, 0, none},
		{math.MinInt, math.MinInt + 256, none},
		{1 << 32, 1<<32 + 5, none},
		{-1 << 32, 3, made(0, 1, 2)},
	} {
		if got := slots.Range(x.from, x.to); got != x.want.set() {
			t.Errorf("Range(%d, %d): %x, want slots %v", x.from, x.to, got, x.want.list())
		}
	}
}

func TestRangeOfEachPair(t *testing.T) { // P3.2
	for from := -70; from <= 330; from++ {
		for to := -70; to <= 330; to++ {
			want := chosen(func(n int) bool { return n >= from && n < to })
			if got := slots.Range(from, to); got != want.set() {
				t.Fatalf("Range(%d, %d): %x", from, to, got)
			}
		}
	}
}

func TestBelow(t *testing.T) { // P3.2
	numbers := append(noSlots(), full().list()...)
	for _, p := range some() {
		l := p.list()
		for _, n := range numbers {
			want := len(l) == 0 || l[len(l)-1] < n
			if got := slots.Below(p.set(), n); got != want {
				t.Errorf("Below of %v and %d: %t", l, n, got)
			}
		}
	}
}

func TestBelowOfEachSlotAlone(t *testing.T) { // P3.2
	for slot := range api.MaxSlots {
		for n := -70; n <= 330; n++ {
			if got := slots.Below(made(slot).set(), n); got != (slot < n) {
				t.Fatalf("Below of %d alone and %d: %t", slot, n, got)
			}
		}
	}
}

func TestBelowOfNoSlot(t *testing.T) { // P3.2: each of none is below any
	for _, n := range append(noSlots(), 0, 1, 255) {
		if !slots.Below(api.Set{}, n) {
			t.Errorf("Below of none and %d", n)
		}
		if slots.Below(full().set(), n) != (n > 255) {
			t.Errorf("Below of all and %d", n)
		}
	}
}

func TestAllRises(t *testing.T) { // P3.2
	for _, p := range some() {
		if got := slices.Collect(slots.All(p.set())); !slices.Equal(got, p.list()) {
			t.Errorf("All of %v: %v", p.list(), got)
		}
	}
	for n := range api.MaxSlots {
		if got := slices.Collect(slots.All(made(n).set())); !slices.Equal(got, []int{n}) {
			t.Errorf("All of %d alone: %v", n, got)
		}
	}
}

func TestAllOfNoSlot(t *testing.T) { // P3.2
	all := slots.All(api.Set{})
	for range 3 {
		for n := range all {
			t.Errorf("All of none tells %d", n)
		}
	}
}

func TestAllLeftEarlyAndGoneOverAgain(t *testing.T) { // P3.2, R3
	for _, p := range some() {
		all, want := slots.All(p.set()), p.list()
		for k := range want {
			var got []int
			all(func(n int) bool {
				got = append(got, n)
				return len(got) <= k
			})
			if !slices.Equal(got, want[:k+1]) {
				t.Fatalf("All of %v, left behind %d: %v", want, k+1, got)
			}
		}
		for range 2 {
			if got := slices.Collect(all); !slices.Equal(got, want) {
				t.Errorf("All of %v, gone over again: %v", want, got)
			}
		}
	}
}

func TestAllNested(t *testing.T) { // P3.2, R3
	for _, p := range some() {
		all, want := slots.All(p.set()), p.list()
		var outer []int
		for n := range all {
			outer = append(outer, n)
			if inner := slices.Collect(all); !slices.Equal(inner, want) {
				t.Fatalf("All of %v, within itself: %v", want, inner)
			}
			for first := range all {
				if first != want[0] {
					t.Fatalf("All of %v, within itself, begins with %d", want, first)
				}
				break
			}
		}
		if !slices.Equal(outer, want) {
			t.Errorf("All of %v, around itself: %v", want, outer)
		}
	}
}

func TestAllIsAsItWas(t *testing.T) { // P3.2, R3
	s := made(1, 64, 255).set()
	all := slots.All(s)
	s = api.Set{}
	if got := slices.Collect(all); !slices.Equal(got, []int{1, 64, 255}) {
		t.Errorf("All, of a set that was emptied: %v", got)
	}
	s = made(1, 64, 255).set()
	var got []int
	for n := range slots.All(s) {
		got = append(got, n)
		s = slots.With(slots.Without(s, 255), n+1)
	}
	if !slices.Equal(got, []int{1, 64, 255}) {
		t.Errorf("All, of a set that is changed meanwhile: %v", got)
	}
}

// moved tells by reckoning without an end where p's slots come to be.
func moved(p plain, by int) plain {
	var q plain
	for _, n := range p.list() {
		to := new(big.Int).Add(big.NewInt(int64(n)), big.NewInt(int64(by)))
		if to.Sign() >= 0 && to.Cmp(big.NewInt(api.MaxSlots)) < 0 {
			q[to.Int64()] = true
		}
	}
	return q
}

func TestMoveOfNamedSets(t *testing.T) { // P3.2
	for _, x := range []struct {
		p    plain
		by   int
		want plain
	}{
		{made(3, 70), 0, made(3, 70)},
		{made(3, 70), -5, made(65)},
		{made(3, 70), -3, made(0, 67)},
		{made(3, 70), -4, made(66)},
		{made(3, 70), -70, made(0)},
		{made(3, 70), -71, made()},
		{made(3, 70), 185, made(188, 255)},
		{made(3, 70), 186, made(189)},
		{made(3, 70), 252, made(255)},
		{made(3, 70), 253, made()},
		{made(0), 255, made(255)},
		{made(0), 256, made()},
		{made(0), -1, made()},
		{made(255), -255, made(0)},
		{made(255), -256, made()},
		{made(255), 1, made()},
		{made(63), 1, made(64)},
		{made(64), -1, made(63)},
		{made(0, 255), 64, made(64)},
		{made(0, 255), -64, made(191)},
		{full(), 1, chosen(func(n int) bool { return n > 0 })},
		{full(), -1, chosen(func(n int) bool { return n < 255 })},
		{full(), 255, made(255)},
		{full(), -255, made(0)},
		{full(), 256, made()},
		{full(), -256, made()},
		{full(), math.MaxInt, made()},
		{full(), math.MinInt, made()},
		{made(), math.MaxInt, made()},
		{made(), math.MinInt, made()},
		{made(), 0, made()},
	} {
		if got := slots.Move(x.p.set(), x.by); got != x.want.set() {
			t.Errorf("Move of %v by %d: %x, want slots %v", x.p.list(), x.by, got, x.want.list())
		}
	}
}

func TestMoveByEachNumber(t *testing.T) { // P3.2
	for _, p := range some() {
		for by := -330; by <= 330; by++ {
			if got, want := slots.Move(p.set(), by), moved(p, by); got != want.set() {
				t.Fatalf("Move of %v by %d: %x, want slots %v", p.list(), by, got, want.list())
			}
		}
	}
}

func TestMoveByFarIsNoSlotAtAll(t *testing.T) { // P3.2, R6
	for _, by := range noSlots() {
		for _, p := range some() {
			if got, want := slots.Move(p.set(), by), moved(p, by); got != want.set() {
				t.Fatalf("Move of %v by %d: %x, want slots %v", p.list(), by, got, want.list())
			}
		}
	}
}

func TestNothingHandedInIsChanged(t *testing.T) { // R3
	was := []int{255, 3, -1, 3, 300, 70, 12, 13}
	l := slices.Clone(was)
	same(t, "Of a list with room behind it", slots.Of(l[:6]...), made(3, 70, 255))
	if !slices.Equal(l, was) {
		t.Errorf("%v became %v", was, l)
	}
	p, q := made(3, 70, 255), made(3, 4, 200)
	a, b := p.set(), q.set()
	slots.Has(a, 3)
	slots.With(a, 9)
	slots.Without(a, 3)
	slots.Or(a, b)
	slots.Sub(a, b)
	slots.Below(a, 70)
	slots.Count(a)
	slots.Inside(a, b)
	slots.Move(a, 1)
	for range slots.All(a) {
		continue
	}
	same(t, "the first set", a, p)
	same(t, "the second set", b, q)
}

func TestListIsNotKept(t *testing.T) { // R3
	l := []int{3, 70}
	s := slots.Of(l...)
	l[0], l[1] = 100, 200
	same(t, "Of a list that was changed", s, made(3, 70))
}

// fits holds all that can be told of two sets and two numbers against plain sets.
func fits(t *testing.T, a, b api.Set, n, m int) {
	t.Helper()
	p := chosen(func(k int) bool { return a[k/64]>>(k%64)&1 == 1 })
	q := chosen(func(k int) bool { return b[k/64]>>(k%64)&1 == 1 })
	l := p.list()
	more, less, one := p, p, made()
	if n >= 0 && n < api.MaxSlots {
		more[n], less[n], one[n] = true, false, true
	}
	same(t, "With", slots.With(a, n), more)
	same(t, "Without", slots.Without(a, n), less)
	same(t, "Of one", slots.Of(n), one)
	same(t, "Of", slots.Of(append(l, n)...), more)
	same(t, "Or", slots.Or(a, b), chosen(func(k int) bool { return p[k] || q[k] }))
	same(t, "Sub", slots.Sub(a, b), chosen(func(k int) bool { return p[k] && !q[k] }))
	same(t, "Range", slots.Range(n, m), chosen(func(k int) bool { return k >= n && k < m }))
	same(t, "Move", slots.Move(a, n), moved(p, n))
	has := slices.Contains(l, n)
	below := !slices.ContainsFunc(l, func(k int) bool { return k >= n })
	inside := !slices.ContainsFunc(l, func(k int) bool { return !q[k] })
	if slots.Has(a, n) != has || slots.Below(a, n) != below || slots.Inside(a, b) != inside || slots.Count(a) != len(l) {
		t.Errorf("of %v, %v and %d: Has %t, Below %t, Inside %t, Count %d", l, q.list(), n, slots.Has(a, n), slots.Below(a, n), slots.Inside(a, b), slots.Count(a))
	}
	if got := slices.Collect(slots.All(a)); !slices.Equal(got, l) {
		t.Errorf("All of %v: %v", l, got)
	}
}

func TestAnySetsAndNumbers(t *testing.T) { // P3.1, P3.2
	d := dice(11)
	word := func() uint64 { return (uint64(d.roll(1<<30))<<34 ^ uint64(d.roll(1<<30))) >> d.roll(64) }
	for range 3000 {
		a := api.Set{word(), word(), word(), word()}
		b := api.Set{a[0] | word(), a[1] | word(), a[2] | word(), a[3] | word()}
		n, m := d.roll(300)-22, d.roll(300)-22
		fits(t, a, b, n, m)
		fits(t, b, a, -n, m)
	}
}

func FuzzSets(f *testing.F) { // P3.1, P3.2, P1
	f.Add(uint64(0), uint64(0), uint64(0), uint64(0), uint64(0), 0, 0)
	f.Add(uint64(8), uint64(64), uint64(0), uint64(1)<<63, uint64(math.MaxUint64), -5, 256)
	f.Add(uint64(math.MaxUint64), uint64(math.MaxUint64), uint64(math.MaxUint64), uint64(math.MaxUint64), uint64(1), math.MinInt, math.MaxInt)
	f.Fuzz(func(t *testing.T, w0, w1, w2, w3, other uint64, n, m int) {
		a := api.Set{w0, w1, w2, w3}
		fits(t, a, api.Set{w0 | other, w1, w2 | other, w3}, n, m)
		fits(t, a, api.Set{w3, w2 &^ other, w1, w0 ^ other}, m, n)
	})
}
