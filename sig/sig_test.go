package sig_test

import (
	"bytes"
	"math"
	"slices"
	"strings"
	"testing"

	"inlay/api"
	"inlay/cursor"
	"inlay/sig"
	"inlay/uvar"
)

const (
	least    = math.MinInt64
	greatest = math.MaxInt64
)

type types = []api.Type

// dice tells numbers that look like any, the same ones each time.
type dice uint64

func (d *dice) roll(n int) int {
	*d = *d*6364136223846793005 + 1442695040888963407
	return int(*d >> 33 % dice(n))
}

// list tells a list of n types that may be.
func (d *dice) list(n int) types {
	var l types
	for range n {
		l = append(l, api.Type(1+d.roll(2)))
	}
	return l
}

// none tells numbers that are no types: around the two, of either sign, and such whose low bits are those of one.
func none() types {
	return types{
		0, -1, -2, -3, 3, 4, 5, 63, 64, 99, 105, 127, 128, 129, 254, 255, 256, 257, 258, 1 << 16, 1<<16 + 1, 1<<32 + 1, 1<<32 + 2, 1<<62 + 1,
		math.MinInt32, math.MaxInt32, least, least + 1, least + 2, greatest - 1, greatest,
	}
}

// lists tells lists of types that may be: none, one, all short ones, many around where how many takes another byte, and any.
func lists() []types {
	l := []types{nil, {}}
	for n := 1; n <= 6; n++ {
		for of := range 1 << n {
			var one types
			for at := range n {
				one = append(one, api.Type(1+of>>at&1))
			}
			l = append(l, one)
		}
	}
	d := dice(11)
	for _, n := range []int{8, 12, 100, 126, 127, 128, 129, 255, 256, 257, 300, 2000, 16383, 16384, 16385} {
		l = append(l, slices.Repeat(types{api.Int}, n), slices.Repeat(types{api.Cx}, n), d.list(n))
	}
	for range 100 {
		l = append(l, d.list(d.roll(400)))
	}
	return l
}

// wrongs tells lists in which something is no type, at the first, a middle and the last place, or everywhere.
func wrongs() []types {
	var l []types
	for _, bad := range none() {
		l = append(l, types{bad}, types{bad, 1}, types{2, bad}, types{1, bad, 2}, types{bad, bad})
		for _, n := range []int{127, 128, 300} {
			for _, at := range []int{0, n / 2, n - 1} {
				one := slices.Repeat(types{api.Cx}, n)
				one[at] = bad
				l = append(l, one)
			}
		}
	}
	return l
}

// right tells what the chapter says that Right tells.
func right(l types, most int) bool {
	for _, t := range l {
		if t != 1 && t != 2 {
			return false
		}
	}
	return len(l) <= most
}

// same tells what the chapter says that Same tells.
func same(a, b types) bool {
	if len(a) != len(b) {
		return false
	}
	for at := range a {
		if a[at] != b[at] {
			return false
		}
	}
	return true
}

// text tells what the chapter says that Text tells.
func text(l types) string {
	var b []byte
	for _, t := range l {
		of := map[api.Type]byte{1: 'i', 2: 'c'}[t]
		if of == 0 {
			of = '?'
		}
		b = append(b, of)
	}
	if len(b) == 0 {
		return "-"
	}
	return string(b)
}

// read tells what the chapter says that Read tells.
func read(s string) (types, api.Errno) {
	if s == "-" {
		return nil, api.OK
	}
	if s == "" || strings.Trim(s, "ic") != "" {
		return nil, api.ErrForm
	}
	var l types
	for at := range len(s) {
		l = append(l, api.Type(1+strings.IndexByte("ic", s[at])))
	}
	return l, api.OK
}

// laid tells what the chapter says that Put lays.
func laid(l types) []byte {
	if !right(l, len(l)) {
		return nil
	}
	var b []byte
	n := len(l)
	for ; n >= 128; n /= 128 {
		b = append(b, byte(128+n%128))
	}
	b = append(b, byte(n))
	for _, t := range l {
		b = append(b, byte(t))
	}
	return b
}

// taken tells what the chapter says that Take tells of bytes, and how many are taken.
func taken(b []byte, most int) (types, int, api.Errno) {
	n, size, err := uvar.Get(b)
	if err != api.OK {
		return nil, 0, err
	}
	if most < 0 || n > uint64(most) {
		return nil, 0, api.ErrMany
	}
	if n > uint64(len(b)-size) {
		return nil, 0, api.ErrShort
	}
	var l types
	for _, x := range b[size : size+int(n)] {
		if x != 1 && x != 2 {
			return nil, 0, api.ErrType
		}
		l = append(l, api.Type(x))
	}
	return l, size + int(n), api.OK
}

// joined tells bytes one behind the other.
func joined(parts ...[]byte) []byte {
	return bytes.Join(parts, nil)
}

// filled tells k bytes c, and others behind them.
func filled(k int, c byte, behind ...byte) []byte {
	return append(bytes.Repeat([]byte{c}, k), behind...)
}

// short tells as much of a list as may be shown.
func short[T any](l []T) []T {
	return l[:min(len(l), 40)]
}

// begin tells as much of a text as may be shown.
func begin(s string) string {
	return s[:min(len(s), 40)]
}

// holds holds a list against what it should be.
func holds(t *testing.T, what string, got, want types) {
	t.Helper()
	if !same(got, want) {
		t.Errorf("%s: %d types %v, want %d types %v", what, len(got), short(got), len(want), short(want))
	}
}

// reads holds what Read tells of s against what it should.
func reads(t *testing.T, s string, want types, err api.Errno) {
	t.Helper()
	got, e := sig.Read(s)
	if !same(got, want) || e != err {
		t.Errorf("Read(%q): %v, error %d, want %v, error %d", begin(s), short(got), e, short(want), err)
	}
}

// readsAs holds what Read tells of s against the chapter.
func readsAs(t *testing.T, s string) {
	t.Helper()
	want, err := read(s)
	reads(t, s, want, err)
}

// takes holds what Take tells of b against what it should: behind an error nothing is left.
func takes(t *testing.T, b []byte, most int, want types, size int, err api.Errno) {
	t.Helper()
	c := cursor.New(b)
	got := sig.Take(c, most)
	left := len(b) - size
	if err != api.OK {
		left = 0
	}
	if !same(got, want) || c.Err() != err || c.Left() != left {
		t.Errorf("Take of %v, at most %d: %v, error %d, %d left, want %v, error %d, %d left",
			short(b), most, short(got), c.Err(), c.Left(), short(want), err, left)
	}
}

// takesAs holds what Take tells of b against the chapter.
func takesAs(t *testing.T, b []byte, most int) {
	t.Helper()
	want, size, err := taken(b, most)
	takes(t, b, most, want, size, err)
}

func TestExample(t *testing.T) {
	if got := sig.Text(types{1, 2}); got != "ic" {
		t.Errorf("Text: %q, want %q", got, "ic")
	}
}

func TestMay(t *testing.T) { // P11.1
	for _, of := range []api.Type{1, 2, api.Int, api.Cx} {
		if !sig.May(of) {
			t.Errorf("May(%d): false", of)
		}
	}
	for _, of := range none() {
		if sig.May(of) {
			t.Errorf("May(%d): true", of)
		}
	}
	for of := api.Type(-70000); of < 70000; of++ {
		if got := sig.May(of); got != (of == 1 || of == 2) {
			t.Errorf("May(%d): %t", of, got)
		}
	}
}

func TestRightOfNamedLists(t *testing.T) { // P11.1
	for _, x := range []struct {
		l    types
		most int
		want bool
	}{
		{nil, 0, true}, {types{}, 0, true}, {nil, 1, true}, {nil, 8, true}, {nil, greatest, true},
		{nil, -1, false}, {types{}, -1, false}, {nil, least, false}, {nil, least + 1, false},
		{types{1}, 1, true}, {types{2}, 1, true}, {types{1}, 2, true}, {types{2}, greatest, true},
		{types{1}, 0, false}, {types{2}, 0, false}, {types{1}, -1, false}, {types{2}, least, false}, {types{1}, -2, false},
		{types{1, 2}, 2, true}, {types{2, 1}, 3, true}, {types{1, 1}, 1, false}, {types{2, 2}, 0, false}, {types{1, 2}, -2, false},
		{types{1, 2, 1, 2}, 4, true}, {types{1, 2, 1, 2}, 3, false}, {types{1, 2, 1, 2}, 5, true},
		{types{0}, 1, false}, {types{3}, 1, false}, {types{-1}, 1, false}, {types{0, 1}, 8, false}, {types{1, 0}, 8, false}, {types{1, 3, 2}, 8, false},
		{types{3, 1, 2}, 8, false}, {types{1, 2, 3}, 8, false}, {types{0}, 0, false}, {types{0, 0}, 1, false}, {types{1, 3}, least, false},
		{slices.Repeat(types{1}, 256), 256, true}, {slices.Repeat(types{1}, 256), 255, false}, {slices.Repeat(types{2}, 255), 256, true},
		{slices.Repeat(types{2}, 5000), 5000, true}, {slices.Repeat(types{2}, 5001), 5000, false},
		{slices.Repeat(types{1}, 100000), greatest, true}, {slices.Repeat(types{1}, 100000), least, false},
	} {
		if got := sig.Right(x.l, x.most); got != x.want {
			t.Errorf("Right of %d types %v, at most %d: %t", len(x.l), short(x.l), x.most, got)
		}
	}
}

func TestRightOfManyLists(t *testing.T) { // P11.1
	for _, l := range append(lists(), wrongs()...) {
		for _, most := range []int{len(l) - 2, len(l) - 1, len(l), len(l) + 1, -len(l), 0, 1, -1, 8, least, least + len(l), greatest - len(l), greatest} {
			if got := sig.Right(l, most); got != right(l, most) {
				t.Errorf("Right of %d types %v, at most %d: %t", len(l), short(l), most, got)
			}
		}
	}
}

func TestRightAsksNothingBehindTheEnd(t *testing.T) { // P11.1
	l := types{1, 2, 3, 0}
	if !sig.Right(l[:2], 2) || sig.Right(l[:3], 3) || !sig.Right(l[1:2], 1) {
		t.Errorf("what lies behind a list's end, or ahead of it, is asked too")
	}
}

func TestSameOfNamedLists(t *testing.T) { // P11.1
	long := slices.Repeat(types{1, 2}, 500)
	changed := func(at int) types {
		l := slices.Clone(long)
		l[at] = 3 - l[at]
		return l
	}
	for name, x := range map[string]struct {
		a, b types
		want bool
	}{
		"nil, nil":                        {nil, nil, true},
		"nil, empty":                      {nil, types{}, true},
		"empty, empty":                    {types{}, types{}, true},
		"nil, one":                        {nil, types{1}, false},
		"empty, one":                      {types{}, types{2}, false},
		"nil, a 0":                        {nil, types{0}, false},
		"one, the same":                   {types{1}, types{1}, true},
		"one, another":                    {types{1}, types{2}, false},
		"a beginning of the other":        {types{1, 2}, types{1, 2, 1}, false},
		"a beginning, the other has 0":    {types{1, 2}, types{1, 2, 0}, false},
		"an end of the other":             {types{2, 1}, types{1, 2, 1}, false},
		"the other way round":             {types{1, 2}, types{2, 1}, false},
		"first place":                     {types{1, 2, 1, 2}, types{2, 2, 1, 2}, false},
		"middle place":                    {types{1, 2, 1, 2}, types{1, 2, 2, 2}, false},
		"last place":                      {types{1, 2, 1, 2}, types{1, 2, 1, 1}, false},
		"may not be, the same":            {types{0, 3, -1}, types{0, 3, -1}, true},
		"may not be, others":              {types{0, 3, -1}, types{0, 3, -2}, false},
		"may not be, and no others":       {types{3}, types{4}, false},
		"may not be against one":          {types{3}, types{1}, false},
		"ends of the numbers":             {types{least, greatest}, types{least, greatest}, true},
		"ends of the numbers, turned":     {types{least, greatest}, types{greatest, least}, false},
		"low bits alike":                  {types{1}, types{1 + 1<<32}, false},
		"low byte alike":                  {types{2}, types{2 + 256}, false},
		"many":                            {long, slices.Clone(long), true},
		"many, but for the first":         {long, changed(0), false},
		"many, but for one in the middle": {long, changed(500), false},
		"many, but for the last":          {long, changed(999), false},
		"many, and one more":              {long, append(slices.Clone(long), 1), false},
		"many, and one fewer":             {long, long[:999], false},
	} {
		if sig.Same(x.a, x.b) != x.want || sig.Same(x.b, x.a) != x.want {
			t.Errorf("Same of %s: not %t both ways", name, x.want)
		}
	}
}

func TestSameOfManyLists(t *testing.T) { // P11.1
	l := append(lists(), types{0}, types{3}, types{0, 1}, types{1, 0}, types{-1, least}, types{1, 2, greatest})
	for _, a := range l {
		if !sig.Same(a, slices.Clone(a)) {
			t.Errorf("Same of %v and itself: false", short(a))
		}
		for _, b := range l {
			if got := sig.Same(a, b); got != same(a, b) {
				t.Errorf("Same of %v and %v: %t", short(a), short(b), got)
			}
		}
	}
}

func TestSameAsksNothingBehindTheEnd(t *testing.T) { // P11.1
	if !sig.Same(types{1, 2, 1}[:2], types{1, 2, 2}[:2]) || sig.Same(types{1, 2, 1}[:2], types{1, 2, 1}) {
		t.Errorf("what lies behind a list's end is asked too")
	}
}

func TestTextOfNamedLists(t *testing.T) { // P11.1
	for _, x := range []struct {
		l    types
		want string
	}{
		{nil, "-"}, {types{}, "-"}, {types{1}, "i"}, {types{2}, "c"}, {types{1, 2}, "ic"}, {types{2, 1}, "ci"}, {types{1, 1}, "ii"}, {types{2, 2}, "cc"},
		{types{1, 1, 2, 1}, "iici"}, {types{0}, "?"}, {types{3}, "?"}, {types{-1}, "?"}, {types{least}, "?"}, {types{greatest}, "?"},
		{types{105}, "?"}, {types{99}, "?"}, {types{45}, "?"}, {types{63}, "?"}, {types{257}, "?"}, {types{1<<32 + 2}, "?"},
		{types{0, 1}, "?i"}, {types{1, 0}, "i?"}, {types{1, 3, 2}, "i?c"}, {types{0, 0}, "??"}, {types{2, -5, 0, 1}, "c??i"},
		{slices.Repeat(types{1}, 300), strings.Repeat("i", 300)}, {slices.Repeat(types{2, 1, 7}, 3000), strings.Repeat("ci?", 3000)},
	} {
		if got := sig.Text(x.l); got != x.want {
			t.Errorf("Text of %v: %q, want %q", short(x.l), begin(got), begin(x.want))
		}
	}
}

func TestTextOfManyLists(t *testing.T) { // P11.1
	for _, l := range append(lists(), wrongs()...) {
		if got := sig.Text(l); got != text(l) {
			t.Errorf("Text of %v: %q", short(l), begin(got))
		}
	}
}

func TestReadOfTexts(t *testing.T) { // P11.1: a text is read as what it is the text of
	for _, l := range lists() {
		reads(t, sig.Text(l), l, api.OK)
	}
	for _, l := range wrongs() {
		reads(t, sig.Text(l), nil, api.ErrForm)
	}
	for _, x := range []struct {
		s    string
		want types
	}{
		{"-", nil}, {"i", types{1}}, {"c", types{2}}, {"ic", types{1, 2}}, {"ci", types{2, 1}}, {"iic", types{1, 1, 2}}, {"cccc", types{2, 2, 2, 2}},
	} {
		reads(t, x.s, x.want, api.OK)
	}
}

// notTexts tells texts that are no list's, or such as have a ?.
func notTexts() []string {
	l := []string{
		"", "--", "---", "-i", "i-", "-c", "c-", "-ic", "ic-", "i-c", "c-i", "-?", "?-",
		"?", "??", "i?", "?i", "c?", "?c", "i?c", "?ic", "ic?",
		"I", "C", "IC", "iC", "Ic", "Ci", "CI",
		" ", " i", "i ", " ic", "ic ", "i c", " -", "- ", "\ti", "i\n", "ic\n", "-\n", "\n", "i\rc", "\x00", "i\x00", "\x00c", "-\x00",
		"a", "b", "d", "h", "j", "x", "id", "ich", "hic", "ib", "jc", "1", "2", "12", "i1", "1c", "i,c", "i;", "_", ".", "[1 2]", "+", "\u2010", "\u2011", "\u2013", "\u2014", "\u2212", "\ufe63", "\uff0d",
		"\u0131", "\u0130", "\u00ed", "\uff49", "\uff43", "\u0441", "\u0456", "\u0456\u0441", "ç", "iç", "çi", "\u2170", "\u217d", "é", "€", "\U0001d422", "😀", "i😀c", "\u0169", "\u0163", "\u016d", "\u0369", "\ufeffi", "i\u0301", "i\u200b", "\u00ad",
		"\x80", "\xff", "i\xff", "\xffi", "i\xffc", "\xc3", "i\xc3", "\xc3i", "\xe2\x82", "ic\xe2\x82", "\xf0\x9f\x98", "\xed\xa0\x80", "\xc0\xe9", "\xc1\xa9", "\xef\xbf\xbd", "i\xef\xbf\xbdc",
		"\xe9", "\xe3", "\xad", "-\xff", "\xff-",
	}
	many := strings.Repeat("ic", 3000)
	return append(l, many+"?", "?"+many, many+"-", "-"+many, many+"I"+many, many+" ", " "+many, many+"\xff"+many, many+"ç", strings.Repeat("-", 5000), strings.Repeat("?", 5000), strings.Repeat(" ", 5000))
}

func TestReadOfTextsThatAreNone(t *testing.T) { // P11.1, R7
	for _, s := range notTexts() {
		reads(t, s, nil, api.ErrForm)
	}
}

func TestReadOfAllShortTexts(t *testing.T) { // P11.1: of each rune, of each two bytes, and of up to six of those that stand in texts
	for r := rune(0); r < 0x3000; r++ {
		readsAs(t, string(r))
		readsAs(t, "i"+string(r))
	}
	for a := range 256 {
		readsAs(t, string([]byte{byte(a)}))
		for b := range 256 {
			readsAs(t, string([]byte{byte(a), byte(b)}))
		}
	}
	some := "ic-? I\xc3"
	for size, many := 3, len(some)*len(some)*len(some); size <= 6; size, many = size+1, many*len(some) {
		for of := range many {
			s := make([]byte, size)
			for at := range s {
				s[at] = some[of%len(some)]
				of /= len(some)
			}
			readsAs(t, string(s))
		}
	}
}

func TestReadOfTextsWithARuneChanged(t *testing.T) { // P11.1
	d := dice(3)
	others := []rune("-?IC \x00\n0ç\u0456\u0441€😀\ufffdabdhj")
	for _, n := range []int{1, 2, 3, 10, 127, 128, 1000} {
		s := []rune(sig.Text(d.list(n)))
		for _, at := range []int{0, n / 2, n - 1} {
			for _, r := range others {
				was := s[at]
				s[at] = r
				readsAs(t, string(s))
				s[at] = was
			}
		}
		readsAs(t, string(s))
	}
}

func TestReadOfLongTexts(t *testing.T) { // P11.1, R1
	reads(t, strings.Repeat("i", 1<<20), slices.Repeat(types{1}, 1<<20), api.OK)
	reads(t, strings.Repeat("c", 1<<20), slices.Repeat(types{2}, 1<<20), api.OK)
	reads(t, strings.Repeat("i", 1<<20)+"?", nil, api.ErrForm)
}

func TestReadTellsNewMemory(t *testing.T) { // R3, R4
	first, _ := sig.Read("icci")
	second, _ := sig.Read("icci")
	first[0], first[3] = 7, 8
	_ = append(first, 9)
	holds(t, "another answer", second, types{1, 2, 2, 1})
	reads(t, "icci", types{1, 2, 2, 1}, api.OK)
	reads(t, "-", nil, api.OK)
}

func TestPutOfNamedLists(t *testing.T) { // P11.2
	for _, x := range []struct {
		b    []byte
		l    types
		want []byte
	}{
		{nil, nil, []byte{0}}, {[]byte{}, types{}, []byte{0}}, {nil, types{1}, []byte{1, 1}}, {nil, types{2}, []byte{1, 2}},
		{nil, types{1, 2}, []byte{2, 1, 2}}, {nil, types{2, 1, 1}, []byte{3, 2, 1, 1}},
		{[]byte{9}, nil, []byte{9, 0}}, {[]byte{9, 200}, types{2}, []byte{9, 200, 1, 2}}, {[]byte{0}, types{1}, []byte{0, 1, 1}},
		{nil, types{0}, nil}, {nil, types{3}, nil}, {nil, types{-1}, nil}, {nil, types{257}, nil}, {nil, types{258}, nil}, {nil, types{1<<32 + 1}, nil}, {nil, types{least}, nil}, {nil, types{greatest}, nil},
		{[]byte{9}, types{0}, []byte{9}}, {[]byte{9}, types{0, 1, 2}, []byte{9}}, {[]byte{9}, types{1, 3, 2}, []byte{9}}, {[]byte{9, 8}, types{1, 2, 0}, []byte{9, 8}}, {[]byte{9}, types{0, 0}, []byte{9}},
	} {
		if got := sig.Put(x.b, x.l); !bytes.Equal(got, x.want) {
			t.Errorf("Put of %v behind %v: %v, want %v", short(x.l), x.b, short(got), short(x.want))
		}
	}
}

func TestPutOfHowMany(t *testing.T) { // P11.2: of 128 and more it takes two bytes
	for _, x := range []struct {
		n     int
		ahead []byte
	}{
		{126, []byte{126}}, {127, []byte{127}}, {128, []byte{128, 1}}, {129, []byte{129, 1}}, {255, []byte{255, 1}}, {256, []byte{128, 2}}, {257, []byte{129, 2}},
		{300, []byte{172, 2}}, {16383, []byte{255, 127}}, {16384, []byte{128, 128, 1}}, {16385, []byte{129, 128, 1}},
	} {
		for _, of := range []api.Type{1, 2} {
			want := joined([]byte{5}, x.ahead, filled(x.n, byte(of)))
			if got := sig.Put([]byte{5}, slices.Repeat(types{of}, x.n)); !bytes.Equal(got, want) {
				t.Errorf("Put of %d types %d: %d bytes %v, want %d bytes %v", x.n, of, len(got), short(got), len(want), short(want))
			}
		}
	}
}

func TestPutOfManyLists(t *testing.T) { // P11.2
	for _, l := range append(lists(), wrongs()...) {
		for _, b := range [][]byte{nil, {7}, filled(200, 255)} {
			want := joined(b, laid(l))
			if got := sig.Put(slices.Clone(b), l); !bytes.Equal(got, want) {
				t.Errorf("Put of %d types %v behind %v: %v", len(l), short(l), short(b), short(got))
			}
		}
	}
}

func TestPutLeavesWhatIsAheadAndTheRoomBeyond(t *testing.T) { // P11.2, R3
	for _, l := range []types{nil, {1}, {2, 1}, {1, 2, 2, 1, 1}, slices.Repeat(types{2}, 127), slices.Repeat(types{2}, 128), {0}, {1, 3}, {2, 2, 2, 2, 2, 0}} {
		want := laid(l)
		for room := range 140 {
			whole := append([]byte{9, 200}, filled(room, 99)...)
			got := sig.Put(whole[:2:len(whole)], l)
			if !bytes.Equal(got, joined([]byte{9, 200}, want)) {
				t.Errorf("Put of %v with room for %d: %v", short(l), room, short(got))
			}
			if whole[0] != 9 || whole[1] != 200 {
				t.Errorf("Put of %v with room for %d: what is ahead became %v", short(l), room, whole[:2])
			}
			for at := 2; at < len(whole); at++ {
				mayBeWritten := room >= len(want) && at < len(got)
				if !mayBeWritten && whole[at] != 99 {
					t.Fatalf("Put of %v with room for %d: byte %d behind the list was written", short(l), room, at)
				}
			}
		}
	}
}

func TestPutKeepsNothing(t *testing.T) { // R3
	b, l := []byte{1, 2}[:2:2], types{2, 1}
	got := sig.Put(b, l)
	b[0], b[1], l[0], l[1] = 50, 60, 1, 7
	if want := []byte{1, 2, 2, 2, 1}; !bytes.Equal(got, want) {
		t.Errorf("an answer of new memory changed with the lists handed in: %v, want %v", got, want)
	}
	first, second := sig.Put(nil, types{1}), sig.Put(nil, types{1})
	first[0], first[1] = 9, 9
	_ = append(first, 77)
	if !bytes.Equal(second, []byte{1, 1}) || !bytes.Equal(sig.Put(nil, types{1}), []byte{1, 1}) {
		t.Errorf("two answers share memory")
	}
}

func TestTakeOfNamedBytes(t *testing.T) { // P11.2
	long := func(n int, ahead ...byte) []byte { return joined(ahead, filled(n, 2)) }
	for _, x := range []struct {
		b    []byte
		most int
		want types
		size int
		err  api.Errno
	}{
		// what Put laid, and bytes behind it
		{[]byte{0}, 8, nil, 1, api.OK}, {[]byte{1, 1}, 8, types{1}, 2, api.OK}, {[]byte{1, 2}, 8, types{2}, 2, api.OK}, {[]byte{3, 2, 1, 1}, 8, types{2, 1, 1}, 4, api.OK},
		{[]byte{0, 1, 2}, 8, nil, 1, api.OK}, {[]byte{1, 1, 3}, 8, types{1}, 2, api.OK}, {[]byte{2, 1, 2, 255, 0}, 8, types{1, 2}, 3, api.OK},
		{long(127, 127), 256, slices.Repeat(types{2}, 127), 128, api.OK}, {long(128, 128, 1), 256, slices.Repeat(types{2}, 128), 130, api.OK}, {long(256, 128, 2), 256, slices.Repeat(types{2}, 256), 258, api.OK},
		// how many
		{nil, 8, nil, 0, api.ErrShort}, {[]byte{128}, 8, nil, 0, api.ErrShort}, {[]byte{255, 255}, 8, nil, 0, api.ErrShort},
		{[]byte{128, 0}, 8, nil, 0, api.ErrLong}, {[]byte{129, 0, 1}, 8, nil, 0, api.ErrLong},
		{filled(9, 255, 1), greatest, nil, 0, api.ErrMany}, {filled(9, 128, 1), greatest, nil, 0, api.ErrMany},
		// at most
		{[]byte{0}, 0, nil, 1, api.OK}, {[]byte{0, 9}, 0, nil, 1, api.OK}, {[]byte{1, 1}, 0, nil, 0, api.ErrMany}, {[]byte{1}, 0, nil, 0, api.ErrMany},
		{[]byte{1, 1}, 1, types{1}, 2, api.OK}, {[]byte{2, 1, 1}, 1, nil, 0, api.ErrMany}, {[]byte{4, 1, 2, 1, 2}, 4, types{1, 2, 1, 2}, 5, api.OK}, {[]byte{5, 1, 2, 1, 2, 1}, 4, nil, 0, api.ErrMany},
		{[]byte{4, 1, 2, 1, 2}, 3, nil, 0, api.ErrMany}, {[]byte{4, 1, 2, 1, 2}, 5, types{1, 2, 1, 2}, 5, api.OK}, {[]byte{4, 1, 2, 1, 2}, greatest, types{1, 2, 1, 2}, 5, api.OK},
		{long(257, 129, 2), 256, nil, 0, api.ErrMany}, {long(257, 129, 2), 257, slices.Repeat(types{2}, 257), 259, api.OK},
		{[]byte{0}, -1, nil, 0, api.ErrMany}, {[]byte{1, 1}, -1, nil, 0, api.ErrMany}, {[]byte{0}, least, nil, 0, api.ErrMany}, {[]byte{1, 3}, least, nil, 0, api.ErrMany},
		// a list that is cut off
		{[]byte{1}, 8, nil, 0, api.ErrShort}, {[]byte{2, 1}, 8, nil, 0, api.ErrShort}, {[]byte{8, 1, 2, 1, 2, 1, 2, 1}, 8, nil, 0, api.ErrShort}, {long(127, 128, 1), 256, nil, 0, api.ErrShort},
		// what is no type
		{[]byte{1, 0}, 8, nil, 0, api.ErrType}, {[]byte{1, 3}, 8, nil, 0, api.ErrType}, {[]byte{1, 255}, 8, nil, 0, api.ErrType}, {[]byte{1, 128}, 8, nil, 0, api.ErrType}, {[]byte{1, 129, 1}, 8, nil, 0, api.ErrType},
		{[]byte{2, 0, 1}, 8, nil, 0, api.ErrType}, {[]byte{2, 1, 0}, 8, nil, 0, api.ErrType}, {[]byte{3, 1, 3, 2}, 8, nil, 0, api.ErrType}, {[]byte{3, 1, 2, 255, 1}, 8, nil, 0, api.ErrType},
		{[]byte{1, 'i'}, 8, nil, 0, api.ErrType}, {[]byte{1, 'c'}, 8, nil, 0, api.ErrType}, {joined(long(127, 128, 1), []byte{3}), 256, nil, 0, api.ErrType}, {joined([]byte{128, 1, 3}, long(127)), 256, nil, 0, api.ErrType},
	} {
		takes(t, x.b, x.most, x.want, x.size, x.err)
	}
}

func TestTakeTellsTheErrorThatIsNamedFirst(t *testing.T) { // P11.2, R2: the cursor's own, and then ErrType
	for _, x := range []struct {
		b    []byte
		most int
		err  api.Errno
	}{
		{[]byte{2, 0}, 8, api.ErrShort}, {[]byte{2, 3}, 8, api.ErrShort}, {[]byte{3, 255, 1}, 8, api.ErrShort}, {[]byte{3, 1, 255}, 8, api.ErrShort}, {[]byte{8, 0, 0, 0, 0, 0, 0, 0}, 8, api.ErrShort},
		{[]byte{2, 0, 0}, 1, api.ErrMany}, {[]byte{2, 3}, 1, api.ErrMany}, {[]byte{1, 3}, 0, api.ErrMany}, {[]byte{1, 3}, -1, api.ErrMany}, {[]byte{9}, 8, api.ErrMany}, {nil, -1, api.ErrShort}, {[]byte{128}, -1, api.ErrShort},
		{[]byte{129, 0, 3}, 8, api.ErrLong}, {[]byte{129, 0, 3}, -1, api.ErrLong}, {[]byte{129, 0, 3}, 0, api.ErrLong},
		{[]byte{2, 0, 3}, 8, api.ErrType}, {[]byte{2, 0, 0}, 2, api.ErrType},
	} {
		takes(t, x.b, x.most, nil, 0, x.err)
	}
}

func TestTakeOfHowManyThatIsNoNumber(t *testing.T) { // P11.2: what uvar tells of it stands
	for _, b := range [][]byte{
		nil, {128}, {255}, {128, 128}, {128, 0}, {255, 0}, {129, 128, 0}, filled(9, 255, 1), filled(9, 255, 2), filled(9, 128, 1), filled(9, 128, 2), filled(9, 128, 127),
		filled(10, 255), filled(10, 255, 1), filled(10, 128, 1), filled(11, 128), filled(20, 255), filled(9, 255, 0), filled(12, 255, 0),
	} {
		for _, most := range []int{0, 1, 256, greatest, -1, least} {
			takesAs(t, b, most)
			takesAs(t, joined(b, []byte{1, 2, 1}), most)
		}
	}
}

func TestTakeOfFarMoreThanThereAreBytes(t *testing.T) { // P11.2, R1
	for _, n := range []uint64{2, 300, 1 << 20, 1 << 31, 1 << 40, 1 << 62, greatest - 1, greatest} {
		for _, behind := range [][]byte{nil, {1}, {3}} {
			takes(t, append(uvar.Put(nil, n), behind...), greatest, nil, 0, api.ErrShort)
		}
	}
	takes(t, append(uvar.Put(nil, greatest+1), 1), greatest, nil, 0, api.ErrMany)
	takes(t, append(uvar.Put(nil, math.MaxUint64), 1), greatest, nil, 0, api.ErrMany)
}

func TestTakeOfEachByteAsAType(t *testing.T) { // P11.2
	for x := range 256 {
		for _, b := range [][]byte{{1, byte(x)}, {3, byte(x), 1, 2}, {3, 1, byte(x), 2}, {3, 1, 2, byte(x)}, {2, 1, byte(x), byte(x)}, {0, byte(x)}, {2, byte(x)}} {
			takesAs(t, b, 8)
		}
	}
}

func TestTakeOfAllShortBytes(t *testing.T) { // P11.2
	for size := range 5 {
		for of := range 1 << (3 * size) {
			b := make([]byte, size)
			for at := range b {
				b[at] = []byte{0, 1, 2, 3, 4, 128, 129, 255}[of>>(3*at)&7]
			}
			for _, most := range []int{0, 1, 2, 3, 4, 300, greatest, -1} {
				takesAs(t, b, most)
			}
		}
	}
}

func TestTakeOfACutList(t *testing.T) { // P11.2
	for _, l := range []types{nil, {1}, {2, 1, 2}, slices.Repeat(types{1}, 127), slices.Repeat(types{2}, 128), slices.Repeat(types{2, 1}, 200)} {
		b := sig.Put(nil, l)
		for size := range b {
			takes(t, b[:size], 400, nil, 0, api.ErrShort)
		}
	}
}

func TestTakeOfAListWithAByteChanged(t *testing.T) { // P11.2
	for _, l := range []types{{1}, {2, 1, 2}, slices.Repeat(types{1}, 127), slices.Repeat(types{2, 1}, 65)} {
		b := sig.Put(nil, l)
		for at := range b {
			for _, x := range []byte{0, 1, 2, 3, 4, 126, 127, 128, 129, 130, 255} {
				changed := slices.Clone(b)
				changed[at] = x
				takesAs(t, changed, 256)
			}
		}
	}
}

func TestTakeLeavesWhatIsBehind(t *testing.T) { // P11.2
	b := joined(sig.Put(nil, types{1, 2}), sig.Put(nil, nil), []byte{77}, sig.Put(nil, slices.Repeat(types{2}, 200)), []byte{172, 2})
	c := cursor.New(b)
	holds(t, "the first", sig.Take(c, 2), types{1, 2})
	holds(t, "the second", sig.Take(c, 0), nil)
	if got := c.Byte(); got != 77 {
		t.Errorf("the byte behind them: %d, want 77", got)
	}
	holds(t, "the third", sig.Take(c, 200), slices.Repeat(types{2}, 200))
	if got := c.Num(300); got != 300 || c.End() != api.OK {
		t.Errorf("the number behind them: %d, error %d, %d left", got, c.End(), c.Left())
	}
	holds(t, "behind the end", sig.Take(c, 8), nil)
	if c.Err() != api.ErrShort {
		t.Errorf("behind the end: error %d", c.Err())
	}
}

func TestTakeBehindAnError(t *testing.T) { // P11.2, R2: the cursor's error stays
	for _, err := range []api.Errno{api.ErrMade, api.ErrArg, api.ErrShort, api.ErrLong, api.ErrForm, api.ErrMany, api.ErrType, api.ErrNone, 77, -1} {
		for _, b := range [][]byte{nil, {0}, {1, 1}, {2, 1, 2, 0, 0}, {1, 3}, {1}, {9, 1}, {128, 0}} {
			for _, most := range []int{8, 0, -1, least, greatest} {
				c := cursor.New(b)
				c.Fail(err)
				for range 2 {
					if got := sig.Take(c, most); len(got) != 0 || c.Err() != err || c.Left() != 0 || c.End() != err {
						t.Errorf("Take of %v behind error %d: %v, error %d, %d left", b, err, got, c.Err(), c.Left())
					}
				}
			}
		}
	}
}

func TestTakeKeepsTheFirstError(t *testing.T) { // P11.2, R2: and takes nothing more
	for _, b := range [][]byte{nil, {128}, {128, 0, 0}, {9, 1, 0}, {2, 1}, {2, 3}, {1, 3, 0, 0}, {2, 1, 0, 0, 1, 1}, filled(12, 255, 0)} {
		_, _, err := taken(b, 8)
		c := cursor.New(b)
		for n := range 4 {
			if got := sig.Take(c, 8-n); len(got) != 0 || c.Err() != err || c.Left() != 0 {
				t.Errorf("Take %d of %v: %v, error %d, %d left, want error %d", n, b, got, c.Err(), c.Left(), err)
			}
		}
		c.Fail(api.ErrNone)
		if got := c.Byte(); got != 0 || c.Err() != err || c.End() != err {
			t.Errorf("behind Take of %v: byte %d, error %d, want %d", b, got, c.Err(), err)
		}
	}
}

func TestTakeOfACursorThatNoCallMade(t *testing.T) { // P11.2, R1, R5
	for _, most := range []int{0, 8, -1, least, greatest} {
		if got := sig.Take(nil, most); len(got) != 0 {
			t.Errorf("Take of nil: %v", got)
		}
		c := new(cursor.Cursor)
		for range 2 {
			if got := sig.Take(c, most); len(got) != 0 || c.Err() != api.ErrMade || c.Left() != 0 {
				t.Errorf("Take of a zero cursor: %v, error %d", got, c.Err())
			}
		}
	}
}

func TestTakeTellsNewMemory(t *testing.T) { // R3
	room := []byte{3, 1, 2, 1, 77, 88}
	was := slices.Clone(room)
	first := sig.Take(cursor.New(room[:4]), 8)
	second := sig.Take(cursor.New(room[:4]), 8)
	first[0], first[2] = 9, 9
	_ = append(first, 5)
	holds(t, "another answer", second, types{1, 2, 1})
	holds(t, "a later answer", sig.Take(cursor.New(room[:4]), 8), types{1, 2, 1})
	if !bytes.Equal(room, was) {
		t.Errorf("%v became %v", was, room)
	}
	c := cursor.New([]byte{2, 1, 1, 2, 2, 2})
	first = sig.Take(c, 8)
	first = append(first, 7, 7)
	second = sig.Take(c, 8)
	second[0] = 9
	holds(t, "the first of two", first, types{1, 1, 7, 7})
	holds(t, "the second of two", second, types{9, 2})
}

func TestWhatWasPutIsTaken(t *testing.T) { // P11.2
	var b []byte
	for _, l := range lists() {
		one := sig.Put(nil, l)
		takes(t, one, len(l), l, len(one), api.OK)
		takes(t, one, greatest, l, len(one), api.OK)
		takes(t, one, len(l)-1, nil, 0, api.ErrMany)
		b = sig.Put(b, l)
	}
	for _, l := range wrongs() { // nothing stands there for these
		b = sig.Put(b, l)
	}
	c := cursor.New(b)
	for n, l := range lists() {
		if got := sig.Take(c, len(l)); !same(got, l) {
			t.Fatalf("list %d: %v, want %v, error %d", n, short(got), short(l), c.Err())
		}
	}
	if err := c.End(); err != api.OK {
		t.Errorf("behind all: error %d, %d left", err, c.Left())
	}
}

func TestWhatIsTakenIsPut(t *testing.T) { // P11.2: bytes that are taken are just those that are put
	d := dice(5)
	held := 0
	for range 100000 {
		b := make([]byte, 1+d.roll(10))
		small := 2 + d.roll(4)
		for at := range b {
			b[at] = byte(d.roll(small))
		}
		most := d.roll(12) - 1
		takesAs(t, b, most)
		c := cursor.New(b)
		if l := sig.Take(c, most); c.Err() == api.OK {
			held++
			if got := sig.Put(nil, l); !bytes.Equal(got, b[:len(b)-c.Left()]) {
				t.Fatalf("Take of %v: %v, but that is put as %v", b, l, got)
			}
		}
	}
	if held < 10000 {
		t.Errorf("of the bytes %d begin with a list: too few to tell", held)
	}
}

// funcs tells functions, and the types of their slots: with none of all three, some of each alone, and many.
func funcs() map[string]struct {
	f    api.Func
	want types
} {
	other := api.Func{Name: "f", Inner: true, Outer: types{2, 2}, Code: []api.Instr{{Op: api.Ret}}, Lines: []int{1}, At: []int{0}, Live: make([]api.Set, 1), Nodes: []api.Node{{Parent: -1}}}
	of := func(params, results, locals types) api.Func {
		f := other
		f.Params, f.Results, f.Locals = params, results, locals
		return f
	}
	many := slices.Repeat(types{1, 2, 2}, 100)
	return map[string]struct {
		f    api.Func
		want types
	}{
		"zero":              {api.Func{}, nil},
		"none":              {other, nil},
		"empty":             {of(types{}, types{}, types{}), nil},
		"params":            {of(types{1, 2}, nil, nil), types{1, 2}},
		"results":           {of(nil, types{2, 1, 1}, nil), types{2, 1, 1}},
		"locals":            {of(nil, nil, types{2}), types{2}},
		"params, results":   {of(types{1}, types{2, 2}, nil), types{1, 2, 2}},
		"params, locals":    {of(types{2}, nil, types{1, 1}), types{2, 1, 1}},
		"results, locals":   {of(nil, types{1}, types{2}), types{1, 2}},
		"of each one":       {of(types{1}, types{2}, types{1}), types{1, 2, 1}},
		"of each another":   {of(types{5}, types{6}, types{7}), types{5, 6, 7}},
		"may not be":        {of(types{0, -1}, types{least}, types{3, greatest}), types{0, -1, least, 3, greatest}},
		"many params":       {of(many, types{1}, types{2}), append(slices.Clone(many), 1, 2)},
		"many results":      {of(types{1}, many, types{2}), append(append(types{1}, many...), 2)},
		"many locals":       {of(types{1}, types{2}, many), append(types{1, 2}, many...)},
		"many of each":      {of(many, many[:250], many[1:]), slices.Concat(many, many[:250], many[1:])},
		"as many as may be": {of(many[:8], many[:4], many[:244]), slices.Concat(many[:8], many[:4], many[:244])},
	}
}

func TestSlots(t *testing.T) { // P11.3
	for name, x := range funcs() {
		holds(t, "Slots of "+name, sig.Slots(x.f), x.want)
	}
}

func TestFirst(t *testing.T) { // P11.3
	for name, x := range funcs() {
		if got := sig.First(x.f); got != len(x.f.Params) {
			t.Errorf("First of %s: %d, want %d", name, got, len(x.f.Params))
		}
		if len(x.f.Results) > 0 && sig.Slots(x.f)[sig.First(x.f)] != x.f.Results[0] {
			t.Errorf("First of %s is not the slot of its first result", name)
		}
	}
	for n := range 300 {
		if got := sig.First(api.Func{Params: make(types, n), Results: make(types, 2), Locals: make(types, 3)}); got != n {
			t.Errorf("First behind %d params: %d", n, got)
		}
	}
}

func TestSlotsTellsNewMemory(t *testing.T) { // P11.3, R3
	for name, x := range funcs() {
		f := x.f
		// room behind each list, which is not to be written
		room := func(l types) (types, types) {
			whole := append(slices.Clone(l), slices.Repeat(types{44}, 700)...)
			return whole[:len(l):len(whole)], whole
		}
		var wholes [3]types
		f.Params, wholes[0] = room(f.Params)
		f.Results, wholes[1] = room(f.Results)
		f.Locals, wholes[2] = room(f.Locals)
		was := [3]types{slices.Clone(wholes[0]), slices.Clone(wholes[1]), slices.Clone(wholes[2])}
		first, second := sig.Slots(f), sig.Slots(f)
		for at := range first {
			first[at] = 33
		}
		_ = append(first, 22, 22)
		holds(t, "another answer of "+name, second, x.want)
		holds(t, "a later answer of "+name, sig.Slots(f), x.want)
		for at := range wholes {
			holds(t, "what was handed in of "+name, wholes[at], was[at])
		}
		third := sig.Slots(f)
		for at := range wholes {
			for k := range wholes[at] {
				wholes[at][k] = 11
			}
		}
		holds(t, "an answer of "+name+" behind whose back the lists change", third, x.want)
	}
}

func TestNothingIsChanged(t *testing.T) { // R3: neither the lists, nor what lies behind their ends
	for _, l := range append(lists(), wrongs()...) {
		whole := append(slices.Clone(l), 5, 6, 7)
		was := slices.Clone(whole)
		part := whole[:len(l)]
		sig.Right(part, 8)
		sig.Same(part, part)
		sig.Same(part, l)
		sig.Text(part)
		sig.Put(nil, part)
		holds(t, "what was handed in", whole, was)
	}
}

func TestTheSameEachTime(t *testing.T) { // R4
	type told struct {
		right, atMost bool
		text, put     string
		read, taken   string
		errs          [2]api.Errno
		slots         string
		first         int
	}
	ask := func(l types) told {
		x := told{right: sig.Right(l, len(l)), atMost: sig.Right(l, 3), text: sig.Text(l), put: string(sig.Put(nil, l))}
		var back types
		back, x.errs[0] = sig.Read(x.text)
		x.read = text(back)
		c := cursor.New([]byte(x.put))
		x.taken, x.errs[1] = text(sig.Take(c, 300)), c.Err()
		f := api.Func{Params: l, Locals: l}
		x.slots, x.first = text(sig.Slots(f)), sig.First(f)
		return x
	}
	all := append(lists(), wrongs()...)
	var first []told
	for _, l := range all {
		first = append(first, ask(l))
	}
	for n := len(all) - 1; n >= 0; n-- { // in another order
		if again := ask(all[n]); again != first[n] {
			t.Errorf("of %v: %v, and then %v", short(all[n]), first[n], again)
		}
	}
}

func FuzzTake(f *testing.F) { // P11.2, P1
	for _, b := range [][]byte{nil, {0}, {1, 1}, {3, 1, 2, 1, 9}, {2, 3}, {128, 0}, {128, 1, 1}, filled(12, 255), {1, 255}} {
		f.Add(b, 8)
		f.Add(b, -1)
	}
	f.Fuzz(func(t *testing.T, b []byte, most int) {
		was := slices.Clone(b)
		takesAs(t, b, most)
		c := cursor.New(b)
		if l := sig.Take(c, most); c.Err() == api.OK && !bytes.Equal(sig.Put(nil, l), b[:len(b)-c.Left()]) {
			t.Fatalf("Take of %v: %v, but that is put as %v", b, l, sig.Put(nil, l))
		}
		if !bytes.Equal(b, was) {
			t.Fatalf("%v became %v", was, b)
		}
	})
}

func FuzzRead(f *testing.F) { // P11.1, P1
	for _, s := range append(notTexts(), "-", "i", "ic", "ciic") {
		f.Add(s)
	}
	f.Fuzz(func(t *testing.T, s string) {
		readsAs(t, s)
		if l, err := sig.Read(s); err == api.OK && (sig.Text(l) != s || !sig.Right(l, len(s))) {
			t.Fatalf("Read(%q): %v, whose Text is %q", s, l, sig.Text(l))
		}
	})
}
