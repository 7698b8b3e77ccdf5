package maps_test

import (
	"bytes"
	"math"
	"slices"
	"testing"

	"inlay/api"
	"inlay/cursor"
	"inlay/maps"
	"inlay/uvar"
)

const (
	least    = math.MinInt
	greatest = math.MaxInt

	most = 2000 // how many instructions the chapter says that a table may have
	all  = 256  // how many slots there are
)

type sets = []api.Set

// set tells the set of numbers from 0 to 255.
func set(l ...int) api.Set {
	var s api.Set
	for _, n := range l {
		s[n/64] |= 1 << (n % 64)
	}
	return s
}

// every tells the set of all slots, and but the set of all but one.
func every() api.Set {
	return api.Set{math.MaxUint64, math.MaxUint64, math.MaxUint64, math.MaxUint64}
}

func but(n int) api.Set {
	s := every()
	s[n/64] &^= 1 << (n % 64)
	return s
}

// has tells whether a number from 0 to 255 is in s.
func has(s api.Set, n int) bool {
	return s[n/64]>>(n%64)&1 == 1
}

// slotsOf tells the numbers of s.
func slotsOf(s api.Set) []int {
	var l []int
	for n := range all {
		if has(s, n) {
			l = append(l, n)
		}
	}
	return l
}

// times tells n sets alike.
func times(n int, s api.Set) sets {
	return slices.Repeat(sets{s}, n)
}

// unlike tells n sets, none of which is like another: they are the numbers from 0 on, in one word.
func unlike(n, word int) sets {
	l := make(sets, n)
	for k := range l {
		l[k][word] = uint64(k)
	}
	return l
}

// with tells l with s at a place.
func with(l sets, at int, s api.Set) sets {
	l = slices.Clone(l)
	l[at] = s
	return l
}

// dice tells numbers that look like any, the same ones each time.
type dice uint64

func (d *dice) roll(n int) int {
	*d = *d*6364136223846793005 + 1442695040888963407
	return int(*d >> 33 % dice(n))
}

// set tells a set of some slots below n.
func (d *dice) set(n int) api.Set {
	var s api.Set
	for range d.roll(6) {
		if n > 0 {
			slot := d.roll(n)
			s[slot/64] |= 1 << (slot % 64)
		}
	}
	return s
}

// table tells a table of n sets of slots below high, some of which are like the one ahead.
func (d *dice) table(n, high int) sets {
	var l sets
	often := 1 + d.roll(9)
	for at := range n {
		if at > 0 && d.roll(often) > 0 {
			l = append(l, l[at-1])
		} else {
			l = append(l, d.set(high))
		}
	}
	return l
}

// some tells sets: of no slots, of one at each word's ends, of all, and such as differ in one slot of one word.
func some() sets {
	l := sets{{}, every(), set(0, 255), set(0, 64, 128, 192), set(63, 127, 191, 255), {5, 6, 7, 8}, {math.MaxUint64}, {0, math.MaxUint64}, {0, 0, math.MaxUint64}, {0, 0, 0, math.MaxUint64}}
	for _, n := range []int{0, 1, 2, 6, 7, 31, 32, 62, 63, 64, 65, 126, 127, 128, 129, 190, 191, 192, 193, 253, 254, 255} {
		l = append(l, set(n), but(n))
	}
	return l
}

// tables tells tables: of no sets, of one, all short ones of three sets, long ones, and any.
func tables() []sets {
	l := []sets{nil, {}}
	for k, s := range some() {
		next := some()[(k+1)%len(some())]
		l = append(l, sets{s}, sets{s, s}, sets{s, next}, sets{s, next, s}, sets{s, s, next, next, s, s, s})
	}
	three := sets{{}, set(3), set(3, 200)}
	for n, many := 1, 3; n <= 4; n, many = n+1, many*3 {
		for of := range many {
			one := make(sets, n)
			for at := range one {
				one[at] = three[of%3]
				of /= 3
			}
			l = append(l, one)
		}
	}
	for _, n := range []int{127, 128, 129, 300, most - 1, most, most + 1} {
		l = append(l, times(n, api.Set{}), times(n, set(9)), times(n, every()), unlike(n, 0), unlike(n, 3))
	}
	d := dice(14)
	for range 100 {
		l = append(l, d.table(d.roll(most+2), 1+d.roll(5)), d.table(d.roll(40), all))
	}
	return l
}

// ends tells numbers of slots: around the ends of words and of sets, and the ends of all numbers.
func ends() []int {
	return []int{least, least + 1, -256, -64, -1, 0, 1, 2, 3, 4, 62, 63, 64, 65, 127, 128, 129, 191, 192, 193, 200, 201, 254, 255, 256, 257, 1 << 31, 1 << 32, greatest - 1, greatest}
}

// beyond tells what the chapter says of a set that has a slot from n on.
func beyond(s api.Set, n int) bool {
	for _, slot := range slotsOf(s) {
		if slot >= n {
			return true
		}
	}
	return false
}

// right tells what the chapter says that Right tells.
func right(l sets, slots int) bool {
	for _, s := range l {
		if beyond(s, slots) {
			return false
		}
	}
	return len(l) <= most
}

// at tells what the chapter says that At tells.
func at(l sets, pc int) api.Set {
	for k, s := range l {
		if k == pc {
			return s
		}
	}
	return api.Set{}
}

// inside tells what the chapter says that Inside tells.
func inside(a, b sets) bool {
	if len(a) != len(b) {
		return false
	}
	for k := range a {
		for n := range all {
			if has(a[k], n) && !has(b[k], n) {
				return false
			}
		}
	}
	return true
}

// moved tells what the chapter says that Move tells.
func moved(l sets, by int) sets {
	var m sets
	for _, s := range l {
		var to api.Set
		for n := range all {
			// From where slot n came: no number goes round, as by is told apart ahead.
			if by > -all && by < all && n-by >= 0 && n-by < all && has(s, n-by) {
				to[n/64] |= 1 << (n % 64)
			}
		}
		m = append(m, to)
	}
	return m
}

// run tells the bytes of one run.
func run(n uint64, s api.Set) []byte {
	return uvar.Put(uvar.Put(uvar.Put(uvar.Put(uvar.Put(nil, n), s[0]), s[1]), s[2]), s[3])
}

// laid tells what the chapter says that Put lays.
func laid(l sets) []byte {
	var b []byte
	for k := 0; k < len(l); {
		n := 1
		for k+n < len(l) && l[k+n] == l[k] {
			n++
		}
		b = append(b, run(uint64(n), l[k])...)
		k += n
	}
	return b
}

// taken tells what the chapter says that Take answers: the table, how many bytes it has, and the error.
// The bytes come ahead of a run's form, and all runs ahead of what their sets have.
func taken(b []byte, n, slots int) (sets, int, api.Errno) {
	var l sets
	size := 0
	for len(l) < n {
		var five [5]uint64
		for k := range five {
			v, more, err := uvar.Get(b[size:])
			if err != api.OK {
				return nil, 0, err
			}
			five[k] = v
			size += more
		}
		s := api.Set(five[1:])
		if five[0] == 0 || five[0] > uint64(n-len(l)) || len(l) > 0 && l[len(l)-1] == s {
			return nil, 0, api.ErrForm
		}
		l = append(l, times(int(five[0]), s)...)
	}
	for _, s := range l {
		if beyond(s, slots) {
			return nil, 0, api.ErrTable
		}
	}
	return l, size, api.OK
}

// joined tells bytes one behind the other.
func joined(parts ...[]byte) []byte {
	return bytes.Join(parts, nil)
}

// filled tells k bytes c, and others behind them.
func filled(k int, c byte, behind ...byte) []byte {
	return append(bytes.Repeat([]byte{c}, k), behind...)
}

// short tells as much of a list as may be shown.
func short[T any](l []T) []T {
	return l[:min(len(l), 40)]
}

// holds holds a list against what it should be; nil is as an empty one.
func holds[T comparable](t *testing.T, what string, got, want []T) {
	t.Helper()
	if !slices.Equal(got, want) {
		t.Errorf("%s: %d of them %v, want %d of them %v", what, len(got), short(got), len(want), short(want))
	}
}

// takes holds what Take tells of b against what it should: behind an error nothing is left.
func takes(t *testing.T, b []byte, n, slots int, want sets, size int, err api.Errno) {
	t.Helper()
	c := cursor.New(b)
	got := maps.Take(c, n, slots)
	left := len(b) - size
	if err != api.OK {
		left = 0
	}
	if !slices.Equal(got, want) || c.Err() != err || c.Left() != left {
		t.Errorf("Take of %v, n %d, slots %d: %v, error %d, %d left, want %v, error %d, %d left",
			short(b), n, slots, short(got), c.Err(), c.Left(), short(want), err, left)
	}
}

// takesAs holds what Take tells of b against the chapter.
func takesAs(t *testing.T, b []byte, n, slots int) {
	t.Helper()
	want, size, err := taken(b, n, slots)
	takes(t, b, n, slots, want, size, err)
}

func TestExample(t *testing.T) {
	if maps.Right(sets{set(3)}, 3) {
		t.Errorf("Right of a table with slot 3, of 3 slots: true")
	}
}

func TestAtOfNamedTables(t *testing.T) { // P14.1
	three := sets{set(5), set(6, 70), set(255)}
	long := unlike(2500, 2)
	for _, x := range []struct {
		l    sets
		pc   int
		want api.Set
	}{
		{sets{set(5)}, 0, set(5)}, {sets{{}}, 0, api.Set{}}, {sets{every()}, 0, every()}, {sets{{1, 2, 3, 4}}, 0, api.Set{1, 2, 3, 4}},
		{three, 0, set(5)}, {three, 1, set(6, 70)}, {three, 2, set(255)},
		{three, 3, api.Set{}}, {three, 4, api.Set{}}, {three, -1, api.Set{}}, {three, -2, api.Set{}}, {three, -3, api.Set{}},
		{three, least, api.Set{}}, {three, least + 1, api.Set{}}, {three, greatest, api.Set{}}, {three, greatest - 1, api.Set{}},
		{three, 1 << 32, api.Set{}}, {three, 1<<32 + 1, api.Set{}}, {three, 1<<62 + 2, api.Set{}},
		{nil, 0, api.Set{}}, {nil, -1, api.Set{}}, {nil, 1, api.Set{}}, {nil, least, api.Set{}}, {nil, greatest, api.Set{}}, {sets{}, 0, api.Set{}},
		{long, 0, api.Set{}}, {long, 1, api.Set{0, 0, 1}}, {long, 1000, api.Set{0, 0, 1000}}, {long, 1999, api.Set{0, 0, 1999}},
		{long, 2000, api.Set{0, 0, 2000}}, {long, 2499, api.Set{0, 0, 2499}}, {long, 2500, api.Set{}}, // it may not be, but has sets
	} {
		if got := maps.At(x.l, x.pc); got != x.want {
			t.Errorf("At of %d sets, instruction %d: %v, want %v", len(x.l), x.pc, got, x.want)
		}
	}
}

func TestAtOfManyTables(t *testing.T) { // P14.1
	for _, l := range tables() {
		for _, pc := range []int{least, -2, -1, 0, 1, 2, len(l) / 2, len(l) - 2, len(l) - 1, len(l), len(l) + 1, greatest} {
			if got, want := maps.At(l, pc), at(l, pc); got != want {
				t.Errorf("At of %v, instruction %d: %v, want %v", short(l), pc, got, want)
			}
		}
	}
}

func TestAtAsksNothingBehindTheEnd(t *testing.T) { // P14.1
	l := sets{set(1), set(2), set(3), set(4)}
	for pc, want := range map[int]api.Set{-1: {}, 0: set(2), 1: set(3), 2: {}} {
		if got := maps.At(l[1:3], pc); got != want {
			t.Errorf("At of a part, instruction %d: %v, want %v", pc, got, want)
		}
	}
}

func TestRightOfNamedTables(t *testing.T) { // P14.1
	for name, x := range map[string]struct {
		l     sets
		slots int
		want  bool
	}{
		"nil":                               {nil, 3, true},
		"empty":                             {sets{}, 3, true},
		"nil, no slots":                     {nil, 0, true},
		"nil, -1":                           {nil, -1, true},
		"nil, the least":                    {nil, least, true},
		"nil, the greatest":                 {nil, greatest, true},
		"3 of 3":                            {sets{set(3)}, 3, false},
		"3 of 4":                            {sets{set(3)}, 4, true},
		"2 of 3":                            {sets{set(2)}, 3, true},
		"4 of 3":                            {sets{set(4)}, 3, false},
		"0 of 0":                            {sets{set(0)}, 0, false},
		"0 of 1":                            {sets{set(0)}, 1, true},
		"0 of -1":                           {sets{set(0)}, -1, false},
		"0 of the least":                    {sets{set(0)}, least, false},
		"0 of the greatest":                 {sets{set(0)}, greatest, true},
		"none of 0":                         {sets{{}}, 0, true},
		"none of -1":                        {sets{{}}, -1, true},
		"none of the least":                 {sets{{}}, least, true},
		"255 of 255":                        {sets{set(255)}, 255, false},
		"254 of 255":                        {sets{set(254)}, 255, true},
		"255 of 256":                        {sets{set(255)}, 256, true},
		"255 of 257":                        {sets{set(255)}, 257, true},
		"all of 255":                        {sets{every()}, 255, false},
		"all of 256":                        {sets{every()}, 256, true},
		"all of 257":                        {sets{every()}, 257, true},
		"all of the greatest":               {sets{every()}, greatest, true},
		"all but the last of 255":           {sets{but(255)}, 255, true},
		"63 of 63":                          {sets{set(63)}, 63, false},
		"63 of 64":                          {sets{set(63)}, 64, true},
		"64 of 64":                          {sets{set(64)}, 64, false},
		"64 of 65":                          {sets{set(64)}, 65, true},
		"127 of 128":                        {sets{set(127)}, 128, true},
		"128 of 128":                        {sets{set(128)}, 128, false},
		"191 of 192":                        {sets{set(191)}, 192, true},
		"192 of 192":                        {sets{set(192)}, 192, false},
		"some below, one not":               {sets{set(0, 1, 70, 200)}, 200, false},
		"some, all below":                   {sets{set(0, 1, 70, 200)}, 201, true},
		"two, the second not":               {sets{set(1), set(5)}, 5, false},
		"two, the first not":                {sets{set(5), set(1)}, 5, false},
		"three, the middle one not":         {sets{set(1), set(5), set(1)}, 5, false},
		"many alike":                        {times(500, set(3)), 4, true},
		"many unlike":                       {unlike(500, 0), 64, true},
		"just 2000":                         {times(2000, set(3)), 4, true},
		"just 2000, unlike":                 {unlike(2000, 3), 256, true},
		"just 2000 of none":                 {times(2000, api.Set{}), 0, true},
		"1999":                              {times(1999, set(3)), 4, true},
		"2001":                              {times(2001, set(3)), 4, false},
		"2001 of none":                      {times(2001, api.Set{}), 256, false},
		"2001, unlike":                      {unlike(2001, 0), 256, false},
		"2001, the greatest":                {times(2001, set(3)), greatest, false},
		"20000":                             {times(20000, set(3)), 4, false},
		"2001, and one has too great a one": {append(times(2000, set(3)), set(4)), 4, false},
		"2000, and one has too great a one": {append(times(1999, set(3)), set(4)), 4, false},
	} {
		if got := maps.Right(x.l, x.slots); got != x.want {
			t.Errorf("%s: Right: %t", name, got)
		}
	}
}

func TestRightOfEachSlot(t *testing.T) { // P14.1: just below slots, slots itself, one beyond
	for n := range all {
		for _, slots := range append(ends(), n-1, n, n+1, n+2) {
			for _, s := range (sets{set(n), set(0, n), set(n/2, n)}) {
				if got := maps.Right(sets{s}, slots); got != (n < slots) {
					t.Errorf("Right of slots %v, of %d slots: %t", slotsOf(s), slots, got)
				}
			}
		}
	}
}

func TestRightOfASetAtEachPlace(t *testing.T) { // P14.1: at the first, a middle and the last
	for _, n := range []int{1, 2, 3, 500, 1999, 2000, 2001} {
		for _, place := range []int{0, n / 2, n - 1} {
			for _, slots := range []int{1, 3, 64, 65, 128, 129, 200, 255} {
				for slot := slots - 1; slot <= min(slots+1, 255); slot++ {
					l := with(times(n, set(0)), place, set(slot))
					if got, want := maps.Right(l, slots), n <= 2000 && slot < slots; got != want {
						t.Errorf("Right of %d sets, of which %d has slot %d, of %d slots: %t", n, place, slot, slots, got)
					}
				}
			}
		}
	}
}

func TestRightOfManyTables(t *testing.T) { // P14.1
	told := map[bool]int{}
	for _, l := range tables() {
		asked := ends()
		if len(l) > 200 {
			asked = []int{0, 3, 64, 200, 256} // each takes its time
		}
		for _, slots := range asked {
			want := right(l, slots)
			if got := maps.Right(l, slots); got != want {
				t.Errorf("Right of %d sets %v, of %d slots: %t", len(l), short(l), slots, got)
			}
			told[want]++
		}
	}
	if told[true] < 1000 || told[false] < 1000 {
		t.Errorf("there are %d that are right and %d that are not: too few of either to tell", told[true], told[false])
	}
}

func TestRightAsksNothingBehindTheEnd(t *testing.T) { // P14.1
	l := sets{set(9), set(1), set(2), set(9)}
	if !maps.Right(l[1:3], 3) || maps.Right(l[:3], 3) || maps.Right(l[1:], 3) || !maps.Right(times(3000, set(1))[:2000], 3) {
		t.Errorf("what lies behind a table's end, or ahead of it, is asked too")
	}
}

func TestInsideOfNamedTables(t *testing.T) { // P14.1
	for name, x := range map[string]struct {
		a, b sets
		want bool
	}{
		"no sets":                        {nil, nil, true},
		"no sets, empty":                 {sets{}, nil, true},
		"no sets, the other empty":       {nil, sets{}, true},
		"no sets in one":                 {nil, sets{set(1)}, false},
		"no sets in one of none":         {nil, sets{{}}, false},
		"one in no sets":                 {sets{set(1)}, nil, false},
		"one of none in no sets":         {sets{{}}, nil, false},
		"one and itself":                 {sets{set(1)}, sets{set(1)}, true},
		"none and none":                  {sets{{}}, sets{{}}, true},
		"none in one":                    {sets{{}}, sets{set(1)}, true},
		"one in none":                    {sets{set(1)}, sets{{}}, false},
		"none in all":                    {sets{{}}, sets{every()}, true},
		"all in none":                    {sets{every()}, sets{{}}, false},
		"all in all":                     {sets{every()}, sets{every()}, true},
		"all in all but one":             {sets{every()}, sets{but(200)}, false},
		"all but one in all":             {sets{but(200)}, sets{every()}, true},
		"one in two":                     {sets{set(1)}, sets{set(1, 2)}, true},
		"two in one":                     {sets{set(1, 2)}, sets{set(1)}, false},
		"another":                        {sets{set(1)}, sets{set(2)}, false},
		"another of another word":        {sets{set(1)}, sets{set(65)}, false},
		"another of the last word":       {sets{set(63)}, sets{set(255)}, false},
		"as many":                        {sets{set(1), set(2, 3)}, sets{set(1, 9), set(2, 3, 255)}, true},
		"as many, the first not":         {sets{set(1), set(2)}, sets{set(9), set(2)}, false},
		"as many, the second not":        {sets{set(1), set(2)}, sets{set(1), set(9)}, false},
		"the other way round":            {sets{set(1), set(2)}, sets{set(2), set(1)}, false},
		"one more in a":                  {sets{set(1), set(2)}, sets{set(1)}, false},
		"one more in b":                  {sets{set(1)}, sets{set(1), set(2)}, false},
		"one more of none in a":          {sets{set(1), {}}, sets{set(1)}, false},
		"one more of none in b":          {sets{set(1)}, sets{set(1), {}}, false},
		"many":                           {times(500, set(1)), times(500, set(1, 2)), true},
		"many, one fewer in a":           {times(499, set(1)), times(500, set(1, 2)), false},
		"many, one fewer in b":           {times(500, set(1)), times(499, set(1, 2)), false},
		"more than a function has":       {times(2001, set(1)), times(2001, set(1, 2)), true},
		"each inside one that is not at": {sets{set(1), set(1)}, sets{set(1, 2), set(3)}, false},
	} {
		if got := maps.Inside(x.a, x.b); got != x.want {
			t.Errorf("%s: Inside: %t", name, got)
		}
	}
}

func TestInsideOfASlotMoreAndASlotFewerAtEachPlace(t *testing.T) { // P14.1: at the first, a middle and the last
	for _, n := range []int{1, 2, 3, 501, 2000} {
		l := times(n, set(3, 64, 100, 191, 192, 255))
		for _, place := range []int{0, n / 2, n - 1} {
			for _, slot := range []int{0, 63, 65, 127, 128, 190, 193, 254} {
				more := with(l, place, set(3, 64, 100, 191, 192, 255, slot))
				if !maps.Inside(l, more) || maps.Inside(more, l) || !maps.Inside(more, more) {
					t.Errorf("of %d sets, of which %d has slot %d more: inside it %t, it inside %t, it inside itself %t",
						n, place, slot, maps.Inside(l, more), maps.Inside(more, l), maps.Inside(more, more))
				}
			}
			fewer := with(l, place, set(3, 64, 100, 192, 255))
			if maps.Inside(l, fewer) || !maps.Inside(fewer, l) {
				t.Errorf("of %d sets, of which %d has slot 191 no more: inside it %t, it inside %t", n, place, maps.Inside(l, fewer), maps.Inside(fewer, l))
			}
		}
	}
}

func TestInsideOfManyTables(t *testing.T) { // P14.1
	d := dice(15)
	told := map[bool]int{}
	hold := func(a, b sets) {
		want := inside(a, b)
		if got := maps.Inside(a, b); got != want {
			t.Errorf("Inside(%v, %v): %t", short(a), short(b), got)
		}
		told[want]++
	}
	many := tables()
	for _, l := range many {
		hold(l, l)
		hold(l, many[d.roll(len(many))])
		if len(l) == 0 || len(l) > 50 {
			continue
		}
		place := d.roll(len(l))
		other := with(l, place, d.set(all))
		hold(l, other)
		hold(other, l)
		hold(l, l[:len(l)-1])
		hold(l[1:], l)
	}
	for _, a := range some() {
		for _, b := range some() {
			hold(sets{a}, sets{b})
			hold(sets{a, b}, sets{every(), b})
		}
	}
	if told[true] < 500 || told[false] < 500 {
		t.Errorf("there are %d that are inside and %d that are not: too few of either to tell", told[true], told[false])
	}
}

func TestInsideAsksNothingBehindTheEnd(t *testing.T) { // P14.1
	l := sets{set(1), set(2), set(3), set(4)}
	if !maps.Inside(l[:2], sets{set(1, 9), set(2, 9)}) || !maps.Inside(sets{set(2), set(3)}, l[1:3]) || maps.Inside(l[:2], l) || maps.Inside(l[1:3], l[:2]) {
		t.Errorf("what lies behind a table's end, or ahead of it, is asked too")
	}
}

func TestMoveOfNamedTables(t *testing.T) { // P14.1
	three := sets{set(0, 63), {}, set(64, 255)}
	for name, x := range map[string]struct {
		l    sets
		by   int
		want sets
	}{
		"no sets":                        {nil, 5, nil},
		"no sets, empty":                 {sets{}, 5, nil},
		"no sets, by the least":          {nil, least, nil},
		"one":                            {sets{set(3)}, 2, sets{set(5)}},
		"one, back":                      {sets{set(3)}, -2, sets{set(1)}},
		"one of none":                    {sets{{}}, 7, sets{{}}},
		"by 0":                           {three, 0, three},
		"by 1":                           {three, 1, sets{set(1, 64), {}, set(65)}},
		"by -1":                          {three, -1, sets{set(62), {}, set(63, 254)}},
		"by 64":                          {three, 64, sets{set(64, 127), {}, set(128)}},
		"by -64":                         {three, -64, sets{{}, {}, set(0, 191)}},
		"by 192":                         {three, 192, sets{set(192, 255), {}, {}}},
		"by -192":                        {three, -192, sets{{}, {}, set(63)}},
		"by 255":                         {three, 255, sets{set(255), {}, {}}},
		"by -255":                        {three, -255, sets{{}, {}, set(0)}},
		"by 256":                         {three, 256, times(3, api.Set{})},
		"by -256":                        {three, -256, times(3, api.Set{})},
		"by 257":                         {three, 257, times(3, api.Set{})},
		"by the least":                   {three, least, times(3, api.Set{})},
		"by the greatest":                {three, greatest, times(3, api.Set{})},
		"by 2 to 32":                     {three, 1 << 32, times(3, api.Set{})},
		"by 2 to 32, and one":            {three, 1<<32 + 1, times(3, api.Set{})},
		"all by 1":                       {sets{every()}, 1, sets{but(0)}},
		"all by -1":                      {sets{every()}, -1, sets{but(255)}},
		"all by 128":                     {sets{every()}, 128, sets{{0, 0, math.MaxUint64, math.MaxUint64}}},
		"many":                           {times(2500, set(7, 250)), 3, times(2500, set(10, 253))},
		"many, some leave on the right":  {times(2500, set(7, 250)), 6, times(2500, set(13))},
		"many, some leave on the left":   {times(2500, set(7, 250)), -8, times(2500, set(242))},
		"alike ones that come to be one": {sets{set(250), set(251)}, 10, sets{{}, {}}},
	} {
		holds(t, name, maps.Move(x.l, x.by), x.want)
	}
}

func TestMoveOfManyTables(t *testing.T) { // P14.1
	for _, l := range tables() {
		if len(l) > 200 {
			continue // each takes its time
		}
		for _, by := range []int{least, least + 1, -300, -257, -256, -255, -192, -65, -64, -63, -1, 0, 1, 2, 63, 64, 65, 128, 191, 254, 255, 256, 257, 300, 1 << 32, greatest - 1, greatest} {
			holds(t, "Move", maps.Move(l, by), moved(l, by))
		}
	}
}

func TestMoveByEachNumber(t *testing.T) { // P14.1
	for by := -300; by <= 300; by++ {
		holds(t, "Move", maps.Move(some(), by), moved(some(), by))
	}
}

func TestMoveTellsNewMemory(t *testing.T) { // P14.1, R3
	for by, want := range map[int]sets{0: {set(1), set(2, 200)}, 1: {set(2), set(3, 201)}, 256: {{}, {}}} {
		l := sets{set(1), set(2, 200), set(77)}
		first, second := maps.Move(l[:2], by), maps.Move(l[:2], by)
		first[0], first[1] = every(), every()
		_ = append(first, every())
		holds(t, "another answer", second, want)
		holds(t, "a later answer", maps.Move(l[:2], by), want)
		holds(t, "what was handed in", l, sets{set(1), set(2, 200), set(77)})
		l[0], l[1] = set(9), set(9)
		holds(t, "an answer behind whose back the table changes", second, want)
	}
}

func TestPutOfNamedTables(t *testing.T) { // P14.2
	full := filled(9, 255, 1)
	for name, x := range map[string]struct {
		l    sets
		want []byte
	}{
		"nil":                          {nil, nil},
		"empty":                        {sets{}, nil},
		"no slots":                     {sets{{}}, []byte{1, 0, 0, 0, 0}},
		"slot 0":                       {sets{set(0)}, []byte{1, 1, 0, 0, 0}},
		"slot 3":                       {sets{set(3)}, []byte{1, 8, 0, 0, 0}},
		"slot 7":                       {sets{set(7)}, []byte{1, 128, 1, 0, 0, 0}},
		"slot 63":                      {sets{set(63)}, joined([]byte{1}, filled(9, 128, 1), []byte{0, 0, 0})},
		"slot 64":                      {sets{set(64)}, []byte{1, 0, 1, 0, 0}},
		"slot 128":                     {sets{set(128)}, []byte{1, 0, 0, 1, 0}},
		"slot 192":                     {sets{set(192)}, []byte{1, 0, 0, 0, 1}},
		"slot 255":                     {sets{set(255)}, joined([]byte{1, 0, 0, 0}, filled(9, 128, 1))},
		"words in order":               {sets{{1, 2, 3, 4}}, []byte{1, 1, 2, 3, 4}},
		"all slots":                    {sets{every()}, joined([]byte{1}, full, full, full, full)},
		"all slots, twice":             {sets{every(), every()}, joined([]byte{2}, full, full, full, full)},
		"two alike":                    {sets{set(1), set(1)}, []byte{2, 2, 0, 0, 0}},
		"two unlike":                   {sets{set(1), set(2)}, []byte{1, 2, 0, 0, 0, 1, 4, 0, 0, 0}},
		"two alike, of no slots":       {sets{{}, {}}, []byte{2, 0, 0, 0, 0}},
		"alike ones that stand apart":  {sets{set(1), set(2), set(1)}, []byte{1, 2, 0, 0, 0, 1, 4, 0, 0, 0, 1, 2, 0, 0, 0}},
		"a run at the beginning":       {sets{set(1), set(1), set(2)}, []byte{2, 2, 0, 0, 0, 1, 4, 0, 0, 0}},
		"a run in the middle":          {sets{set(2), set(1), set(1), set(2)}, []byte{1, 4, 0, 0, 0, 2, 2, 0, 0, 0, 1, 4, 0, 0, 0}},
		"a run at the end":             {sets{set(2), set(1), set(1)}, []byte{1, 4, 0, 0, 0, 2, 2, 0, 0, 0}},
		"of no slots, then some":       {sets{{}, {}, set(1)}, []byte{2, 0, 0, 0, 0, 1, 2, 0, 0, 0}},
		"unlike in the first word":     {sets{{1, 5, 5, 5}, {3, 5, 5, 5}}, []byte{1, 1, 5, 5, 5, 1, 3, 5, 5, 5}},
		"unlike in the second word":    {sets{{5, 1, 5, 5}, {5, 3, 5, 5}}, []byte{1, 5, 1, 5, 5, 1, 5, 3, 5, 5}},
		"unlike in the third word":     {sets{{5, 5, 1, 5}, {5, 5, 3, 5}}, []byte{1, 5, 5, 1, 5, 1, 5, 5, 3, 5}},
		"unlike in the fourth word":    {sets{{5, 5, 5, 1}, {5, 5, 5, 3}}, []byte{1, 5, 5, 5, 1, 1, 5, 5, 5, 3}},
		"unlike in the highest bit":    {sets{set(255), {}}, joined([]byte{1, 0, 0, 0}, filled(9, 128, 1), []byte{1, 0, 0, 0, 0})},
		"127 alike":                    {times(127, set(1)), []byte{127, 2, 0, 0, 0}},
		"128 alike":                    {times(128, set(1)), []byte{128, 1, 2, 0, 0, 0}},
		"300 alike, and one":           {append(times(300, set(64)), api.Set{}), []byte{172, 2, 0, 1, 0, 0, 1, 0, 0, 0, 0}},
		"2000 alike":                   {times(2000, set(0)), []byte{208, 15, 1, 0, 0, 0}},
		"2001 alike, that may not be":  {times(2001, set(0)), []byte{209, 15, 1, 0, 0, 0}},
		"20000 alike, that may not be": {times(20000, set(0)), []byte{160, 156, 1, 1, 0, 0, 0}},
	} {
		holds(t, name, maps.Put(nil, x.l), x.want)
		for _, ahead := range [][]byte{{}, {0}, {1, 2}, {128}, filled(20, 255)} {
			holds(t, name+", behind others", maps.Put(slices.Clone(ahead), x.l), joined(ahead, x.want))
		}
	}
}

func TestPutOfManyTables(t *testing.T) { // P14.2
	for _, l := range tables() {
		for _, ahead := range [][]byte{nil, {7, 128}} {
			holds(t, "Put", maps.Put(slices.Clone(ahead), l), joined(ahead, laid(l)))
		}
	}
}

func TestPutOfSetsThatDifferInOneSlot(t *testing.T) { // P14.2
	for slot := range all {
		one := set(3, 70, 140, 210)
		other := one
		other[slot/64] ^= 1 << (slot % 64)
		want := joined(run(2, one), run(1, other), run(3, one))
		holds(t, "Put", maps.Put(nil, sets{one, one, other, one, one, one}), want)
	}
}

func TestPutLeavesWhatIsAheadAndTheRoomBeyond(t *testing.T) { // P14.2, R3
	for _, l := range []sets{nil, {set(1)}, {set(1), set(1), set(2), set(7)}, times(128, set(1)), {every()}, {{}, {}, {}}} {
		want := laid(l)
		for room := range 60 {
			whole := append([]byte{9, 200}, filled(room, 99)...)
			got := maps.Put(whole[:2:len(whole)], l)
			holds(t, "Put", got, joined([]byte{9, 200}, want))
			holds(t, "what is ahead", whole[:2], []byte{9, 200})
			for k := 2; k < len(whole); k++ {
				mayBeWritten := room >= len(want) && k < len(got)
				if !mayBeWritten && whole[k] != 99 {
					t.Errorf("Put of %v with room for %d: byte %d behind the list was written", short(l), room, k)
				}
			}
		}
	}
}

func TestPutKeepsNothing(t *testing.T) { // P14.2, R3
	b, l := []byte{1, 2}[:2:2], sets{set(1), set(1), set(2)}
	got := maps.Put(b, l)
	b[0], b[1], l[0], l[2] = 50, 60, set(70), set(80)
	holds(t, "an answer behind whose back the lists change", got, []byte{1, 2, 2, 2, 0, 0, 0, 1, 4, 0, 0, 0})
	first, second := maps.Put(nil, sets{set(1)}), maps.Put(nil, sets{set(1)})
	first[0] = 9
	_ = append(first, 77)
	holds(t, "another answer", second, []byte{1, 2, 0, 0, 0})
	holds(t, "a later answer", maps.Put(nil, sets{set(1)}), []byte{1, 2, 0, 0, 0})
}

func TestTakeOfNamedBytes(t *testing.T) { // P14.2
	full := filled(9, 255, 1)
	for _, x := range []struct {
		b     []byte
		n     int
		slots int
		want  sets
		size  int
	}{
		{[]byte{1, 0, 0, 0, 0}, 1, 0, sets{{}}, 5}, {[]byte{1, 0, 0, 0, 0}, 1, -1, sets{{}}, 5}, {[]byte{1, 0, 0, 0, 0}, 1, least, sets{{}}, 5},
		{[]byte{1, 1, 0, 0, 0}, 1, 1, sets{set(0)}, 5}, {[]byte{1, 8, 0, 0, 0}, 1, 4, sets{set(3)}, 5}, {[]byte{1, 8, 0, 0, 0}, 1, greatest, sets{set(3)}, 5},
		{[]byte{1, 1, 2, 3, 4}, 1, 256, sets{{1, 2, 3, 4}}, 5}, {[]byte{1, 128, 1, 0, 0, 0}, 1, 8, sets{set(7)}, 6}, {[]byte{1, 0, 0, 0, 1}, 1, 193, sets{set(192)}, 5},
		{joined([]byte{1}, full, full, full, full), 1, 256, sets{every()}, 41}, {joined([]byte{3}, full, full, full, full), 3, 257, times(3, every()), 41}, {joined([]byte{1, 0, 0, 0}, filled(9, 128, 1)), 1, 256, sets{set(255)}, 14},
		{[]byte{2, 2, 0, 0, 0}, 2, 2, sets{set(1), set(1)}, 5}, {[]byte{1, 2, 0, 0, 0, 1, 4, 0, 0, 0}, 2, 3, sets{set(1), set(2)}, 10},
		{[]byte{1, 2, 0, 0, 0, 1, 4, 0, 0, 0, 1, 2, 0, 0, 0}, 3, 3, sets{set(1), set(2), set(1)}, 15},
		{[]byte{1, 5, 5, 5, 1, 1, 5, 5, 5, 3}, 2, 256, sets{{5, 5, 5, 1}, {5, 5, 5, 3}}, 10}, {[]byte{1, 1, 5, 5, 5, 1, 3, 5, 5, 5}, 2, 256, sets{{1, 5, 5, 5}, {3, 5, 5, 5}}, 10},
		{[]byte{127, 2, 0, 0, 0}, 127, 2, times(127, set(1)), 5}, {[]byte{128, 1, 2, 0, 0, 0}, 128, 2, times(128, set(1)), 6}, {[]byte{208, 15, 1, 0, 0, 0}, 2000, 1, times(2000, set(0)), 6},
		{[]byte{207, 15, 1, 0, 0, 0, 1, 0, 0, 0, 0}, 2000, 1, append(times(1999, set(0)), api.Set{}), 11},
		{[]byte{209, 15, 1, 0, 0, 0}, 2001, 1, times(2001, set(0)), 6}, // more than may be, but that is for Right to tell
		// bytes behind it
		{[]byte{1, 2, 0, 0, 0, 0}, 1, 2, sets{set(1)}, 5}, {[]byte{1, 2, 0, 0, 0, 1, 2, 0, 0, 0}, 1, 2, sets{set(1)}, 5}, {[]byte{1, 2, 0, 0, 0, 128}, 1, 2, sets{set(1)}, 5},
		{[]byte{2, 2, 0, 0, 0, 1, 255, 255}, 2, 2, sets{set(1), set(1)}, 5}, {[]byte{3, 0, 0, 0, 0, 9, 9, 9, 9, 9}, 3, 0, times(3, api.Set{}), 5},
		// none
		{nil, 0, 5, nil, 0}, {[]byte{1, 2, 0, 0, 0}, 0, 5, nil, 0}, {[]byte{0}, 0, 0, nil, 0}, {[]byte{128, 0}, 0, -1, nil, 0}, {nil, -1, 5, nil, 0}, {[]byte{1, 2, 0, 0, 0}, -1, 0, nil, 0},
		{[]byte{255}, least, least, nil, 0}, {[]byte{1, 1}, -2000, greatest, nil, 0},
	} {
		takes(t, x.b, x.n, x.slots, x.want, x.size, api.OK)
	}
}

func TestTakeOfABrokenRun(t *testing.T) { // P14.2
	one, two := []byte{1, 2, 0, 0, 0}, []byte{1, 4, 0, 0, 0}
	for name, x := range map[string]struct {
		b     []byte
		n     int
		slots int
		err   api.Errno
	}{
		"no bytes":                     {nil, 1, 256, api.ErrShort},
		"no bytes, many":               {nil, 2000, 256, api.ErrShort},
		"no bytes, the greatest n":     {nil, greatest, 0, api.ErrShort},
		"within how many":              {[]byte{128}, 200, 256, api.ErrShort},
		"within it, more bytes":        {filled(9, 255), 200, 256, api.ErrShort},
		"no word":                      {[]byte{1}, 1, 256, api.ErrShort},
		"within the first word":        {[]byte{1, 128}, 1, 256, api.ErrShort},
		"one word":                     {[]byte{1, 2}, 1, 256, api.ErrShort},
		"within the second word":       {[]byte{1, 2, 128}, 1, 256, api.ErrShort},
		"two words":                    {[]byte{1, 2, 0}, 1, 256, api.ErrShort},
		"within the third word":        {[]byte{1, 2, 0, 255}, 1, 256, api.ErrShort},
		"three words":                  {[]byte{1, 2, 0, 0}, 1, 256, api.ErrShort},
		"within the fourth word":       {[]byte{1, 2, 0, 0, 129}, 1, 256, api.ErrShort},
		"ahead of the second run":      {one, 2, 256, api.ErrShort},
		"ahead of it, the greatest n":  {one, greatest, 256, api.ErrShort},
		"ahead of it, of no slots":     {[]byte{1, 0, 0, 0, 0}, 2, 256, api.ErrShort},
		"within the second":            {joined(one, two[:3]), 2, 256, api.ErrShort},
		"within the second, no slots":  {[]byte{1, 0, 0, 0, 0, 1, 0, 0, 0}, 2, 256, api.ErrShort},
		"how many too long":            {[]byte{129, 0, 2, 0, 0, 0}, 1, 256, api.ErrLong},
		"how many too long, of 0":      {[]byte{128, 0, 2, 0, 0, 0}, 1, 256, api.ErrLong},
		"first word too long":          {[]byte{1, 130, 0, 0, 0, 0}, 1, 256, api.ErrLong},
		"first word too long, of 0":    {[]byte{1, 128, 0, 0, 0, 0}, 1, 256, api.ErrLong},
		"second word too long":         {[]byte{1, 2, 129, 0, 0, 0}, 1, 256, api.ErrLong},
		"third word too long, of 0":    {[]byte{1, 2, 0, 128, 0, 0}, 1, 256, api.ErrLong},
		"fourth word too long":         {[]byte{1, 2, 0, 0, 255, 0}, 1, 256, api.ErrLong},
		"second how many too long":     {joined(one, []byte{129, 0, 4, 0, 0, 0}), 2, 256, api.ErrLong},
		"second run's word too long":   {joined(one, []byte{1, 4, 0, 0, 128, 0}), 2, 256, api.ErrLong},
		"how many beyond 64 bits":      {joined(filled(9, 255, 2), []byte{0, 0, 0, 0}), 1, 256, api.ErrForm},
		"first word beyond 64 bits":    {joined([]byte{1}, filled(9, 255, 2), []byte{0, 0, 0}), 1, 256, api.ErrForm},
		"fourth word beyond 64 bits":   {joined([]byte{1, 0, 0, 0}, filled(9, 255, 2)), 1, 256, api.ErrForm},
		"run of none":                  {[]byte{0, 2, 0, 0, 0}, 1, 256, api.ErrForm},
		"run of none, of no slots":     {[]byte{0, 0, 0, 0, 0}, 1, 256, api.ErrForm},
		"run of none, many":            {joined([]byte{0, 2, 0, 0, 0}, one), 2000, 256, api.ErrForm},
		"second run of none":           {joined(one, []byte{0, 4, 0, 0, 0}, one), 2, 256, api.ErrForm},
		"last run of none":             {joined(one, two, []byte{0, 2, 0, 0, 0}), 3, 256, api.ErrForm},
		"one too many":                 {[]byte{2, 2, 0, 0, 0}, 1, 256, api.ErrForm},
		"2001 of 2000":                 {run(2001, set(1)), 2000, 256, api.ErrForm},
		"second one too many":          {[]byte{2, 2, 0, 0, 0, 2, 4, 0, 0, 0}, 3, 256, api.ErrForm},
		"third one too many":           {joined(one, two, []byte{2, 2, 0, 0, 0}), 3, 256, api.ErrForm},
		"the greatest run":             {run(greatest, set(1)), 2000, 256, api.ErrForm},
		"a run of 64 bits":             {run(math.MaxUint64, set(1)), greatest, 256, api.ErrForm},
		"a run of the highest bit":     {run(1<<63, set(1)), greatest, 256, api.ErrForm},
		"a run of it, and one":         {run(1<<63+1, set(1)), 1, 256, api.ErrForm},
		"as 1, but for a high bit":     {run(1<<32+1, set(1)), 1, 256, api.ErrForm},
		"the second of 64 bits":        {joined(one, run(math.MaxUint64, set(2))), 5, 256, api.ErrForm},
		"the set of the one ahead":     {joined(one, one), 2, 256, api.ErrForm},
		"the same, of no slots":        {[]byte{1, 0, 0, 0, 0, 1, 0, 0, 0, 0}, 2, 256, api.ErrForm},
		"the same, all slots":          {joined(run(1, every()), run(3, every())), 4, 256, api.ErrForm},
		"the same, later":              {joined(one, two, []byte{2, 4, 0, 0, 0}), 4, 256, api.ErrForm},
		"slot 3 of 3":                  {[]byte{1, 8, 0, 0, 0}, 1, 3, api.ErrTable},
		"slot 4 of 3":                  {[]byte{1, 16, 0, 0, 0}, 1, 3, api.ErrTable},
		"slot 0 of 0":                  {[]byte{1, 1, 0, 0, 0}, 1, 0, api.ErrTable},
		"slot 0 of -1":                 {[]byte{1, 1, 0, 0, 0}, 1, -1, api.ErrTable},
		"slot 0 of the least":          {[]byte{1, 1, 0, 0, 0}, 1, least, api.ErrTable},
		"slot 64 of 64":                {[]byte{1, 0, 1, 0, 0}, 1, 64, api.ErrTable},
		"slot 255 of 255":              {run(1, set(255)), 1, 255, api.ErrTable},
		"slot 255 of 3":                {run(1, set(255)), 1, 3, api.ErrTable},
		"slot 3 of 3, many":            {run(2000, set(3)), 2000, 3, api.ErrTable},
		"slots 1 and 3 of 3":           {[]byte{1, 10, 0, 0, 0}, 1, 3, api.ErrTable},
		"the second, slot 3 of 3":      {joined(one, []byte{1, 8, 0, 0, 0}), 2, 3, api.ErrTable},
		"the middle one, slot 3 of 3":  {joined(one, []byte{1, 8, 0, 0, 0}, one), 3, 3, api.ErrTable},
		"the last one, slot 3 of 3":    {joined(one, two, []byte{1, 8, 0, 0, 0}), 3, 3, api.ErrTable},
		"the first one, slot 3 of 3":   {joined([]byte{1, 8, 0, 0, 0}, one, two), 3, 3, api.ErrTable},
		"all of them, slot 3 or more":  {joined([]byte{1, 8, 0, 0, 0}, []byte{1, 16, 0, 0, 0}), 2, 3, api.ErrTable},
		"all slots of 255":             {run(1, every()), 1, 255, api.ErrTable},
		"slot 3, but for the 4th word": {[]byte{1, 8, 0, 0, 1}, 1, 4, api.ErrTable},
	} {
		t.Run(name, func(t *testing.T) {
			takes(t, x.b, x.n, x.slots, nil, 0, x.err)
			if x.err == api.ErrShort {
				return
			}
			for _, behind := range [][]byte{{0}, {1, 2}, {128}, joined(two, one, two)} {
				takes(t, joined(x.b, behind), x.n, x.slots, nil, 0, x.err)
			}
		})
	}
}

func TestTakeTellsTheErrorThatIsNamedFirst(t *testing.T) { // P14.2, R2: the cursor's own, then ErrForm, then ErrTable
	one, great := []byte{1, 2, 0, 0, 0}, []byte{1, 8, 0, 0, 0}
	none, long := []byte{0, 4, 0, 0, 0}, []byte{129, 0, 4, 0, 0, 0}
	for name, x := range map[string]struct {
		b   []byte
		n   int
		err api.Errno
	}{
		"run of none, no words":                 {[]byte{0}, 1, api.ErrShort},
		"run of none, within a word":            {[]byte{0, 128}, 1, api.ErrShort},
		"run of none, no last word":             {[]byte{0, 2, 0, 0}, 1, api.ErrShort},
		"run of none, a word too long":          {[]byte{0, 130, 0, 0, 0, 0}, 1, api.ErrLong},
		"run of none, slot 3":                   {[]byte{0, 8, 0, 0, 0}, 1, api.ErrForm},
		"too many, no words":                    {[]byte{2}, 1, api.ErrShort},
		"too many, a word too long":             {[]byte{2, 2, 0, 0, 128, 0}, 1, api.ErrLong},
		"too many, slot 3":                      {[]byte{2, 8, 0, 0, 0}, 1, api.ErrForm},
		"the greatest, no words":                {uvar.Put(nil, math.MaxUint64), 1, api.ErrShort},
		"too long, slot 3":                      {[]byte{129, 0, 8, 0, 0, 0}, 1, api.ErrLong},
		"the set of the one ahead, slot 3":      {joined(great, great), 2, api.ErrForm},
		"slot 3, no second":                     {great, 2, api.ErrShort},
		"slot 3, within the second":             {joined(great, one[:4]), 2, api.ErrShort},
		"slot 3, second too long":               {joined(great, long), 2, api.ErrLong},
		"slot 3, second of none":                {joined(great, none), 2, api.ErrForm},
		"slot 3, second too many":               {joined(great, []byte{9, 2, 0, 0, 0}), 2, api.ErrForm},
		"slot 3, second the same":               {joined(great, great), 2, api.ErrForm},
		"slot 3, third of none":                 {joined(great, one, none), 3, api.ErrForm},
		"slot 3, no third":                      {joined(great, one), 3, api.ErrShort},
		"second slot 3, no third":               {joined(one, great), 3, api.ErrShort},
		"second slot 3, third the same":         {joined(one, great, great), 3, api.ErrForm},
		"word too long, second of none":         {joined([]byte{1, 138, 0, 0, 0, 0}, none), 2, api.ErrLong},
		"run of none, second too long":          {joined(none, long), 2, api.ErrForm},
		"run of none, no second":                {none, 2, api.ErrForm},
		"second again, third too long":          {joined(one, one, long), 3, api.ErrForm},
		"second again, no third":                {joined(one, one), 3, api.ErrForm},
		"cut off within a number that is wrong": {joined(one, []byte{130}), 3, api.ErrShort},
		"second of none, its set again":         {joined(one, []byte{0, 2, 0, 0, 0}), 2, api.ErrForm},
	} {
		t.Run(name, func(t *testing.T) { takes(t, x.b, x.n, 3, nil, 0, x.err) })
	}
}

func TestTakeOfFewerAndOfMore(t *testing.T) { // P14.2
	five, six := set(5), set(6, 200)
	l := sets{five, five, five, six, five, five}
	b := maps.Put(nil, l)
	for n, want := range map[int]api.Errno{
		1: api.ErrForm, 2: api.ErrForm, 3: api.OK, 4: api.OK, 5: api.ErrForm, 6: api.OK,
		7: api.ErrShort, 8: api.ErrShort, 2000: api.ErrShort, 1 << 40: api.ErrShort, greatest: api.ErrShort,
	} {
		if want != api.OK {
			takes(t, b, n, 256, nil, 0, want)
			continue
		}
		takes(t, b, n, 256, l[:n], len(maps.Put(nil, l[:n])), api.OK)
	}
	takes(t, b, 3, 6, l[:3], 5, api.OK) // what is behind is not asked
	takes(t, b, 4, 200, nil, 0, api.ErrTable)
}

func TestTakeOfEachSlot(t *testing.T) { // P14.2: just below slots, slots itself, one beyond
	for n := range all {
		b := run(2, set(n))
		for _, slots := range append(ends(), n-1, n, n+1, n+2) {
			if n < slots {
				takes(t, b, 2, slots, sets{set(n), set(n)}, len(b), api.OK)
			} else {
				takes(t, b, 2, slots, nil, 0, api.ErrTable)
			}
		}
	}
}

func TestTakeOfASetAtEachPlace(t *testing.T) { // P14.2: at the first, a middle and the last run
	for _, n := range []int{1, 2, 3, 100} {
		for _, place := range []int{0, n / 2, n - 1} {
			for _, slots := range []int{7, 64, 65, 128, 192, 200, 255} {
				for slot := slots - 1; slot <= min(slots+1, 255); slot++ {
					l := with(unlike(n, 0)[:n:n], place, set(slot))
					if slots < 64 {
						l = with(slices.Repeat(sets{set(0), set(1)}, n)[:n], place, set(slot))
					}
					takesAs(t, maps.Put(nil, l), n, slots)
				}
			}
		}
	}
}

func TestTakeOfAllShortBytes(t *testing.T) { // P14.2: of what may stand at each of a run's places
	of := []byte{0, 1, 2, 128}
	for size := range 8 {
		for many := range 1 << (2 * size) {
			b := make([]byte, size)
			for k := range b {
				b[k] = of[many>>(2*k)&3]
			}
			for _, n := range []int{-1, 0, 1, 2} {
				for _, slots := range []int{0, 1, 256} {
					takesAs(t, b, n, slots)
				}
			}
		}
	}
}

func TestTakeOfACutTable(t *testing.T) { // P14.2
	for _, l := range []sets{{{}}, {every()}, {set(1), set(1), set(2)}, unlike(30, 0), unlike(30, 3), times(300, set(9))} {
		b := maps.Put(nil, l)
		for size := range b {
			for _, slots := range []int{0, 2, 256} { // also where a set ahead has a slot from there on
				takes(t, b[:size], len(l), slots, nil, 0, api.ErrShort)
			}
		}
	}
}

func TestTakeOfATableWithAByteChanged(t *testing.T) { // P14.2
	for _, l := range []sets{{{}}, {every()}, {set(1), set(1), set(2)}, unlike(12, 2), times(300, set(9)), {set(255), {}, set(255), set(0), set(0), set(64)}} {
		b := maps.Put(nil, l)
		for k := range b {
			for x := range 256 {
				changed := slices.Clone(b)
				changed[k] = byte(x)
				takesAs(t, changed, len(l), 256)
				takesAs(t, changed, len(l), 65)
			}
		}
	}
}

func TestTakeOfAGreatTableThatIsWrong(t *testing.T) { // P14.2, R1, R6: an answer of none needs no memory for it
	for _, n := range []int{1 << 31, 1 << 40, 1 << 62, greatest} {
		for _, x := range []struct {
			behind []byte
			err    api.Errno
		}{
			{nil, api.ErrShort}, {[]byte{0, 6, 0, 0, 0}, api.ErrForm}, {[]byte{2, 6, 0, 0, 0}, api.ErrForm}, {run(greatest, set(2)), api.ErrForm}, {[]byte{1, 2, 0, 0, 0}, api.ErrForm},
			{[]byte{1, 8, 0, 0, 0}, api.ErrTable}, {run(1, set(255)), api.ErrTable}, {[]byte{129, 0, 4, 0, 0, 0}, api.ErrLong}, {[]byte{1, 132}, api.ErrShort},
		} {
			takes(t, joined(run(uint64(n-1), set(1)), x.behind), n, 3, nil, 0, x.err)
		}
	}
}

func TestTakeOfAGreatTableEnds(t *testing.T) { // R1: what is beyond the bound is promised nothing but that
	for _, n := range []int{1 << 31, 1 << 40, 1 << 62, greatest} {
		c := cursor.New(joined(run(uint64(n-1), set(1)), run(1, set(2))))
		if l := maps.Take(c, n, 256); len(l) > 0 || c.Err() == api.OK {
			t.Errorf("a table of %d: %d sets, error %d", n, len(l), c.Err())
		}
	}
}

func TestTakeOfMoreThanAFunctionHas(t *testing.T) { // P14.2: how many there may be is for Right to tell
	for _, n := range []int{2001, 5000, 300000} {
		l := append(times(n-1, set(7)), set(8))
		b := maps.Put(nil, l)
		takes(t, b, n, 9, l, len(b), api.OK)
		takes(t, b, n, 8, nil, 0, api.ErrTable)
	}
	l := unlike(5000, 1)
	b := maps.Put(nil, l)
	takes(t, b, len(l), 256, l, len(b), api.OK)
}

func TestTakeLeavesWhatIsBehind(t *testing.T) { // P14.2
	l := sets{set(1), set(1), set(200)}
	c := cursor.New(joined(maps.Put(nil, l), []byte{77}, maps.Put(nil, times(200, set(9))), []byte{172, 2}))
	holds(t, "the first", maps.Take(c, 3, 201), l)
	holds(t, "none of 0", maps.Take(c, 0, 0), nil)
	holds(t, "none of -1", maps.Take(c, -1, 256), nil)
	if got := c.Byte(); got != 77 {
		t.Errorf("the byte behind it: %d, want 77", got)
	}
	holds(t, "the second", maps.Take(c, 200, 10), times(200, set(9)))
	if got := c.Num(300); got != 300 || c.End() != api.OK {
		t.Errorf("the number behind it: %d, error %d, %d left", got, c.End(), c.Left())
	}
	holds(t, "none of 0 behind the end", maps.Take(c, 0, 256), nil)
	if c.Err() != api.OK {
		t.Errorf("none of 0 behind the end: error %d", c.Err())
	}
	holds(t, "behind the end", maps.Take(c, 1, 256), nil)
	if c.Err() != api.ErrShort {
		t.Errorf("behind the end: error %d", c.Err())
	}
}

func TestTakeBehindAnError(t *testing.T) { // P14.2, R2: the cursor's error stays
	for _, err := range []api.Errno{api.ErrMade, api.ErrArg, api.ErrShort, api.ErrLong, api.ErrForm, api.ErrMany, api.ErrTable, api.ErrNone, 77, -1} {
		for _, b := range [][]byte{nil, {1, 2, 0, 0, 0}, {2, 2, 0, 0, 0, 1, 4, 0, 0, 0}, {1, 255, 1, 0, 0, 0}, {0}, {1}, {128, 0}} {
			for _, n := range []int{least, -1, 0, 1, 2, 3, 2000, greatest} {
				for _, slots := range []int{least, 0, 3, 256, greatest} {
					c := cursor.New(b)
					c.Fail(err)
					for range 2 {
						if got := maps.Take(c, n, slots); len(got) != 0 || c.Err() != err || c.Left() != 0 || c.End() != err {
							t.Errorf("Take of %v behind error %d, n %d: %v, error %d, %d left", b, err, n, got, c.Err(), c.Left())
						}
					}
				}
			}
		}
	}
}

func TestTakeKeepsTheFirstError(t *testing.T) { // P14.2, R2: and takes nothing more
	one := []byte{1, 2, 0, 0, 0}
	for _, b := range [][]byte{
		nil, {128}, joined([]byte{128, 0}, one), joined([]byte{0, 2, 0, 0, 0}, one), joined([]byte{9, 2, 0, 0, 0}, one), joined(one, one, one),
		joined([]byte{1, 8, 0, 0, 0}, one, []byte{1, 8, 0, 0, 0}, one), joined([]byte{1}, filled(9, 255, 2), one),
	} {
		_, _, err := taken(b, 3, 3)
		c := cursor.New(b)
		for n := 3; n >= 0; n-- {
			if got := maps.Take(c, n, 3); len(got) != 0 || c.Err() != err || c.Left() != 0 {
				t.Errorf("Take of %v, n %d: %v, error %d, %d left, want error %d", b, n, got, c.Err(), c.Left(), err)
			}
		}
		c.Fail(api.ErrNone)
		if got := c.Byte(); got != 0 || c.Err() != err || c.End() != err {
			t.Errorf("behind Take of %v: byte %d, error %d, want %d", b, got, c.Err(), err)
		}
	}
}

func TestTakeOfACursorThatNoCallMade(t *testing.T) { // P14.2, R1, R5
	for _, n := range []int{least, -1, 0, 1, 2, 2000, greatest} {
		for _, slots := range ends() {
			if got := maps.Take(nil, n, slots); len(got) != 0 {
				t.Errorf("Take of nil, n %d: %v", n, got)
			}
			c := new(cursor.Cursor)
			for range 2 {
				if got := maps.Take(c, n, slots); len(got) != 0 || c.Err() != api.ErrMade || c.Left() != 0 {
					t.Errorf("Take of a zero cursor, n %d: %v, error %d", n, got, c.Err())
				}
			}
		}
	}
}

func TestTakeTellsNewMemory(t *testing.T) { // P14.2, R3
	room := []byte{2, 2, 0, 0, 0, 1, 4, 0, 0, 0, 77, 88}
	was := slices.Clone(room)
	want := sets{set(1), set(1), set(2)}
	first := maps.Take(cursor.New(room[:10]), 3, 3)
	second := maps.Take(cursor.New(room[:10]), 3, 3)
	first[0], first[2] = set(50), set(60)
	_ = append(first, set(5))
	holds(t, "another answer", second, want)
	holds(t, "a later answer", maps.Take(cursor.New(room[:10]), 3, 3), want)
	holds(t, "what was handed in", room, was)
	c := cursor.New([]byte{2, 1, 0, 0, 0, 1, 2, 0, 0, 0, 1, 4, 0, 0, 0})
	first = append(maps.Take(c, 2, 256), set(7), set(7))
	second = maps.Take(c, 2, 256)
	second[0] = set(9)
	holds(t, "the first of two", first, sets{set(0), set(0), set(7), set(7)})
	holds(t, "the second of two", second, sets{set(9), set(2)})
}

func TestWhatWasPutIsTaken(t *testing.T) { // P14.2
	var b []byte
	for _, l := range tables() {
		one := maps.Put(nil, l)
		takes(t, one, len(l), 256, l, len(one), api.OK)
		takes(t, joined(one, []byte{1, 2}), len(l), greatest, l, len(one), api.OK)
		takes(t, one, len(l)+1, 256, nil, 0, api.ErrShort)
		takesAs(t, one, len(l), 200)
		takesAs(t, one, len(l), 0)
		b = maps.Put(b, l)
	}
	c := cursor.New(b)
	for k, l := range tables() {
		if got := maps.Take(c, len(l), 256); !slices.Equal(got, l) {
			t.Fatalf("table %d: %v, want %v, error %d", k, short(got), short(l), c.Err())
		}
	}
	if err := c.End(); err != api.OK {
		t.Errorf("behind all: error %d, %d left", err, c.Left())
	}
}

func TestWhatIsTakenIsPut(t *testing.T) { // P14.2: bytes that are taken are just those that are put
	d := dice(5)
	held := 0
	for range 60000 {
		b := make([]byte, 5*(1+d.roll(4))+d.roll(2))
		small := 2 + d.roll(3)
		for k := range b {
			b[k] = byte(d.roll(small))
		}
		n, slots := d.roll(5)-1, 256-d.roll(2)*(62+d.roll(3))
		takesAs(t, b, n, slots)
		c := cursor.New(b)
		if l := maps.Take(c, n, slots); n > 0 && c.Err() == api.OK {
			held++
			holds(t, "what was taken, put again", maps.Put(nil, l), b[:len(b)-c.Left()])
			if !maps.Right(l, slots) {
				t.Errorf("what was taken, %v, is not right of %d slots", l, slots)
			}
		}
	}
	if held < 2000 {
		t.Errorf("of the bytes %d begin with a table: too few to tell", held)
	}
}

func TestNothingIsChanged(t *testing.T) { // R3: neither the tables, nor what lies behind their ends
	for _, l := range tables() {
		whole := append(slices.Clone(l), set(5), every(), set(7))
		was := slices.Clone(whole)
		part := whole[:len(l)]
		maps.At(part, len(l)-1)
		maps.At(part, len(l))
		maps.Right(part, 5)
		maps.Inside(part, whole)
		maps.Inside(whole, part)
		maps.Inside(part, part)
		maps.Move(part, 1)
		maps.Put(nil, part)
		maps.Put([]byte{1, 2, 3}, part)
		holds(t, "what was handed in", whole, was)
	}
}

func TestTheSameEachTime(t *testing.T) { // R4
	ask := func(l sets) ([]bool, sets, sets, []byte, sets, api.Errno) {
		b := maps.Put(nil, l)
		c := cursor.New(b)
		got := maps.Take(c, len(l), 200)
		return []bool{maps.Right(l, 200), maps.Inside(l, l), maps.Inside(l, maps.Move(l, 1))}, sets{maps.At(l, 0), maps.At(l, len(l)/2), maps.At(l, len(l))}, maps.Move(l, 3), b, got, c.Err()
	}
	all := tables()
	for k := range all {
		first, other := all[k], all[len(all)-1-k] // another one between
		told1, at1, move1, put1, taken1, err1 := ask(first)
		ask(other)
		told2, at2, move2, put2, taken2, err2 := ask(first)
		holds(t, "Right and Inside", told2, told1)
		holds(t, "At", at2, at1)
		holds(t, "Move", move2, move1)
		holds(t, "Put", put2, put1)
		holds(t, "Take", taken2, taken1)
		if err1 != err2 {
			t.Errorf("of %v: error %d, and then %d", short(first), err1, err2)
		}
	}
}

func FuzzTake(f *testing.F) { // P14.2, P1
	f.Add([]byte{2, 2, 0, 0, 0, 1, 4, 0, 0, 0}, int16(3), 3)
	f.Add([]byte{2, 2, 0, 0, 0, 1, 2, 0, 0, 0}, int16(3), 256)
	f.Add([]byte{172, 2, 0, 1, 0, 0}, int16(300), 64)
	f.Add(joined([]byte{1, 8, 0, 0, 0}, run(1, set(255))), int16(2), 3)
	f.Add(filled(12, 255), int16(-1), -1)
	f.Fuzz(func(t *testing.T, b []byte, n int16, slots int) {
		was := slices.Clone(b)
		takesAs(t, b, int(n), slots)
		c := cursor.New(b)
		if l := maps.Take(c, int(n), slots); c.Err() == api.OK {
			holds(t, "what was taken, put again", maps.Put(nil, l), b[:len(b)-c.Left()])
		}
		holds(t, "what was handed in", b, was)
	})
}

func FuzzTable(f *testing.F) { // P14.1, P14.2, P1: of each byte a set, that of one slot, of none, or of two
	f.Add([]byte{1, 1, 2, 1}, 0, 1)
	f.Add([]byte{0, 255, 255, 3}, 256, -64)
	f.Add([]byte{128, 127, 128, 127}, 128, 2)
	f.Add([]byte{}, least, greatest)
	f.Fuzz(func(t *testing.T, b []byte, slots, by int) {
		var l, m sets
		for k, x := range b {
			l = append(l, set(int(x), int(b[k/2])))
			m = append(m, set(int(x), int(b[0]), int(b[len(b)-1])))
		}
		was := slices.Clone(l)
		if got := maps.Right(l, slots); got != right(l, slots) {
			t.Errorf("Right of %v, of %d slots: %t", short(l), slots, got)
		}
		if got := maps.At(l, slots); got != at(l, slots) {
			t.Errorf("At of %v, instruction %d: %v", short(l), slots, got)
		}
		if got := maps.Inside(l, m); got != inside(l, m) {
			t.Errorf("Inside(%v, %v): %t", short(l), short(m), got)
		}
		holds(t, "Move", maps.Move(l, by), moved(l, by))
		holds(t, "Put", maps.Put(nil, l), laid(l))
		takesAs(t, maps.Put(nil, l), len(l), slots)
		holds(t, "what was handed in", l, was)
	})
}
