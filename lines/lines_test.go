package lines_test

import (
	"bytes"
	"math"
	"slices"
	"testing"

	"inlay/api"
	"inlay/cursor"
	"inlay/lines"
	"inlay/uvar"
)

const (
	least    = math.MinInt
	greatest = math.MaxInt

	most = 2000  // how many instructions the chapter says that a table may have
	last = 65535 // the greatest line that the chapter says that there may be
)

type spans = []lines.Span

// times tells n lines alike.
func times(n, line int) []int {
	return slices.Repeat([]int{line}, n)
}

// rising tells n lines from from on, none of which is like the one ahead.
func rising(n, from int) []int {
	var l []int
	for k := range n {
		l = append(l, from+k)
	}
	return l
}

// dice tells numbers that look like any, the same ones each time.
type dice uint64

func (d *dice) roll(n int) int {
	*d = *d*6364136223846793005 + 1442695040888963407
	return int(*d >> 33 % dice(n))
}

// table tells a table of n lines from 0 to high, some of which are like the one ahead.
func (d *dice) table(n, high int) []int {
	var l []int
	often := 1 + d.roll(9)
	for at := range n {
		if at > 0 && d.roll(often) > 0 {
			l = append(l, l[at-1])
		} else {
			l = append(l, d.roll(high+1))
		}
	}
	return l
}

// none tells numbers that are no lines: around the ends, of either sign, and such whose low bits are those of a line.
func none() []int {
	return []int{
		-1, -2, -3, -last, -last - 1, -1 << 31, -1 << 32, last + 1, last + 2, 2*last + 1, 1 << 17, 1<<31 - 1, 1 << 31, 1 << 32, 1<<32 + 5, 1<<62 + 7,
		least, least + 1, least + 5, greatest - 1, greatest,
	}
}

// tables tells tables of lines that may be: of no instructions, of one, all short ones of three lines, long ones, and any.
func tables() [][]int {
	l := [][]int{nil, {}, {0}, {1}, {7}, {last}, {last - 1}, {0, last}, {last, 0, 0}, {last, last}, {1, 1, 2, 1}}
	for n, many := 1, 3; n <= 5; n, many = n+1, many*3 {
		for of := range many {
			one := make([]int, n)
			for at := range one {
				one[at] = of % 3
				of /= 3
			}
			l = append(l, one)
		}
	}
	for _, n := range []int{127, 128, 129, 300, most - 1, most, most + 1} {
		l = append(l, times(n, 0), times(n, 9), times(n, last), rising(n, 0), rising(n, last+1-n))
	}
	d := dice(12)
	for range 150 {
		l = append(l, d.table(d.roll(most+2), 1+d.roll(5)), d.table(d.roll(40), last))
	}
	return l
}

// wrongs tells tables in which something is no line, at the first, a middle and the last place, or everywhere.
func wrongs() [][]int {
	var l [][]int
	for _, bad := range none() {
		l = append(l, []int{bad}, []int{bad, 0}, []int{last, bad}, []int{1, bad, 1}, []int{bad, bad}, []int{bad, 1, bad}, []int{bad, bad, 0, bad})
		for _, n := range []int{3, 300, most - 1, most, most + 1} {
			for _, at := range []int{0, n / 2, n - 1} {
				one := times(n, 5)
				one[at] = bad
				l = append(l, one)
			}
		}
	}
	return l
}

// right tells what the chapter says that Right tells.
func right(l []int) bool {
	for _, line := range l {
		if line < 0 || line > last {
			return false
		}
	}
	return len(l) <= most
}

// at tells what the chapter says that At tells.
func at(l []int, pc int) int {
	for k, line := range l {
		if k == pc {
			return line
		}
	}
	return 0
}

// of tells what the chapter says that Of tells: from where a line begins to where it ends.
func of(l []int, line int) spans {
	var s spans
	for k := range l {
		if l[k] != line {
			continue
		}
		if k == 0 || l[k-1] != line {
			s = append(s, lines.Span{From: k})
		}
		s[len(s)-1].To = k + 1
	}
	return s
}

// laid tells what the chapter says that Put lays.
func laid(l []int) []byte {
	var b []byte
	for k := 0; k < len(l); {
		n := 1
		for k+n < len(l) && l[k+n] == l[k] {
			n++
		}
		b = uvar.Put(b, uint64(n))
		b = uvar.PutInt(b, l[k])
		k += n
	}
	return b
}

// run tells the bytes of one run.
func run(n uint64, line int) []byte {
	return uvar.PutInt(uvar.Put(nil, n), line)
}

// taken tells what the chapter says that Take answers: the table, how many bytes it has, and the error.
func taken(b []byte, n int) ([]int, int, api.Errno) {
	var l []int
	size := 0
	for len(l) < n {
		many, k, err := uvar.Get(b[size:])
		if err != api.OK {
			return nil, 0, err
		}
		if many == 0 || many > uint64(n-len(l)) {
			return nil, 0, api.ErrForm
		}
		size += k
		line, k, err := uvar.GetInt(b[size:])
		if err != api.OK {
			return nil, 0, err
		}
		if len(l) > 0 && l[len(l)-1] == line {
			return nil, 0, api.ErrForm
		}
		if line < 0 || line > last {
			return nil, 0, api.ErrArg
		}
		size += k
		l = append(l, times(int(many), line)...)
	}
	return l, size, api.OK
}

// joined tells bytes one behind the other.
func joined(parts ...[]byte) []byte {
	return bytes.Join(parts, nil)
}

// filled tells k bytes c, and others behind them.
func filled(k int, c byte, behind ...byte) []byte {
	return append(bytes.Repeat([]byte{c}, k), behind...)
}

// short tells as much of a list as may be shown.
func short[T any](l []T) []T {
	return l[:min(len(l), 40)]
}

// holds holds a list against what it should be; nil is as an empty one.
func holds[T comparable](t *testing.T, what string, got, want []T) {
	t.Helper()
	if !slices.Equal(got, want) {
		t.Errorf("%s: %d of them %v, want %d of them %v", what, len(got), short(got), len(want), short(want))
	}
}

// takes holds what Take tells of b against what it should: behind an error nothing is left.
func takes(t *testing.T, b []byte, n int, want []int, size int, err api.Errno) {
	t.Helper()
	c := cursor.New(b)
	got := lines.Take(c, n)
	left := len(b) - size
	if err != api.OK {
		left = 0
	}
	if !slices.Equal(got, want) || c.Err() != err || c.Left() != left {
		t.Errorf("Take of %v, n %d: %v, error %d, %d left, want %v, error %d, %d left",
			short(b), n, short(got), c.Err(), c.Left(), short(want), err, left)
	}
}

// takesAs holds what Take tells of b against the chapter.
func takesAs(t *testing.T, b []byte, n int) {
	t.Helper()
	want, size, err := taken(b, n)
	takes(t, b, n, want, size, err)
}

func TestExample(t *testing.T) {
	holds(t, "Of", lines.Of([]int{1, 1, 2, 1}, 1), spans{{0, 2}, {3, 4}})
}

func TestRightOfNamedTables(t *testing.T) { // P12.1
	for name, x := range map[string]struct {
		l    []int
		want bool
	}{
		"nil":                     {nil, true},
		"empty":                   {[]int{}, true},
		"one":                     {[]int{7}, true},
		"0":                       {[]int{0}, true},
		"65535":                   {[]int{65535}, true},
		"-1":                      {[]int{-1}, false},
		"65536":                   {[]int{65536}, false},
		"the least":               {[]int{least}, false},
		"the greatest":            {[]int{greatest}, false},
		"many alike":              {times(500, 3), true},
		"many unlike":             {rising(500, 3), true},
		"falling":                 {[]int{9, 5, 5, 2, 0}, true},
		"both ends":               {[]int{0, 65535, 0, 65535}, true},
		"just 2000":               {times(2000, 3), true},
		"just 2000, unlike":       {rising(2000, 63536), true},
		"2001":                    {times(2001, 3), false},
		"2001 of line 0":          {times(2001, 0), false},
		"2001, unlike":            {rising(2001, 0), false},
		"1999":                    {times(1999, 3), true},
		"100000":                  {times(100000, 3), false},
		"2000, up to 65536":       {rising(2000, 63537), false},
		"2000, from -1 on":        {rising(2000, -1), false},
		"2001, and one is none":   {append(times(2000, 3), -1), false},
		"2001, and none is a one": {times(2001, 65536), false},
	} {
		if got := lines.Right(x.l); got != x.want {
			t.Errorf("%s: Right: %t", name, got)
		}
	}
}

func TestRightOfEachLine(t *testing.T) { // P12.1
	for line := -70000; line < 140000; line++ {
		if got := lines.Right([]int{line}); got != (line >= 0 && line <= 65535) {
			t.Errorf("Right of line %d: %t", line, got)
		}
	}
}

func TestRightOfALineAtEachPlace(t *testing.T) { // P12.1: at the first, a middle and the last
	for _, n := range []int{1, 2, 3, 500, 1999, 2000, 2001} {
		for _, place := range []int{0, n / 2, n - 1} {
			for _, line := range append(none(), 0, 1, 65534, 65535) {
				l := times(n, 7)
				l[place] = line
				want := n <= 2000 && line >= 0 && line <= 65535
				if got := lines.Right(l); got != want {
					t.Errorf("Right of %d instructions, of which %d is of line %d: %t", n, place, line, got)
				}
			}
		}
	}
}

func TestRightOfManyTables(t *testing.T) { // P12.1
	told := map[bool]int{}
	for _, l := range append(tables(), wrongs()...) {
		want := right(l)
		if got := lines.Right(l); got != want {
			t.Errorf("Right of %d lines %v: %t", len(l), short(l), got)
		}
		told[want]++
	}
	if told[true] < 100 || told[false] < 100 {
		t.Errorf("there are %d that are right and %d that are not: too few of either to tell", told[true], told[false])
	}
}

func TestRightAsksNothingBehindTheEnd(t *testing.T) { // P12.1
	l := []int{-1, 1, 2, 65536}
	if !lines.Right(l[1:3]) || lines.Right(l[:3]) || lines.Right(l[1:]) || !lines.Right(times(3000, 1)[:2000]) {
		t.Errorf("what lies behind a table's end, or ahead of it, is asked too")
	}
}

func TestAtOfNamedTables(t *testing.T) { // P12.1
	long := rising(2000, 100)
	for _, x := range []struct {
		l    []int
		pc   int
		want int
	}{
		{[]int{5}, 0, 5}, {[]int{5, 6, 7}, 0, 5}, {[]int{5, 6, 7}, 1, 6}, {[]int{5, 6, 7}, 2, 7},
		{[]int{5, 6, 7}, 3, 0}, {[]int{5, 6, 7}, 4, 0}, {[]int{5, 6, 7}, -1, 0}, {[]int{5, 6, 7}, -3, 0}, {[]int{5, 6, 7}, least, 0}, {[]int{5, 6, 7}, greatest, 0},
		{[]int{5, 6, 7}, 1 << 32, 0}, {[]int{5, 6, 7}, 1<<32 + 1, 0}, {[]int{5, 6, 7}, least + 1, 0}, {[]int{5, 6, 7}, greatest - 1, 0},
		{[]int{5}, 1, 0}, {[]int{5}, -1, 0}, {[]int{5}, least, 0}, {[]int{5}, greatest, 0},
		{nil, 0, 0}, {nil, 1, 0}, {nil, -1, 0}, {nil, least, 0}, {nil, greatest, 0}, {[]int{}, 0, 0}, {[]int{}, -1, 0},
		{[]int{0, 65535}, 0, 0}, {[]int{0, 65535}, 1, 65535},
		{[]int{-1}, 0, -1}, {[]int{65536, least, greatest}, 0, 65536}, {[]int{65536, least, greatest}, 1, least}, {[]int{65536, least, greatest}, 2, greatest}, {[]int{65536, least, greatest}, 3, 0},
		{long, 0, 100}, {long, 1000, 1100}, {long, 1999, 2099}, {long, 2000, 0}, {long, -2000, 0}, {rising(5000, 0), 4999, 4999}, {rising(5000, 0), 5000, 0},
	} {
		if got := lines.At(x.l, x.pc); got != x.want {
			t.Errorf("At of %d lines %v, instruction %d: %d, want %d", len(x.l), short(x.l), x.pc, got, x.want)
		}
	}
}

func TestAtOfManyTables(t *testing.T) { // P12.1
	for _, l := range append(tables(), wrongs()...) {
		n := len(l)
		for _, pc := range []int{0, 1, 2, n / 3, n / 2, n - 2, n - 1, n, n + 1, 2 * n, -1, -2, -n, -n - 1, least, least + n, greatest - n, greatest} {
			if got := lines.At(l, pc); got != at(l, pc) {
				t.Errorf("At of %d lines %v, instruction %d: %d, want %d", n, short(l), pc, got, at(l, pc))
			}
		}
	}
}

func TestAtAsksNothingBehindTheEnd(t *testing.T) { // P12.1
	l := []int{4, 5, 6, 7}
	if lines.At(l[1:3], 2) != 0 || lines.At(l[1:3], -1) != 0 || lines.At(l[:0], 0) != 0 || lines.At(l[1:3], 1) != 6 {
		t.Errorf("what lies behind a table's end, or ahead of it, is told too")
	}
}

func TestOfNamedTables(t *testing.T) { // P12.1
	many := slices.Repeat([]int{3, 3, 8}, 600)
	var threes, eights spans
	for k := range 600 {
		threes = append(threes, lines.Span{From: 3 * k, To: 3*k + 2})
		eights = append(eights, lines.Span{From: 3*k + 2, To: 3*k + 3})
	}
	for name, x := range map[string]struct {
		l    []int
		line int
		want spans
	}{
		"nil":                         {nil, 1, nil},
		"nil, line 0":                 {nil, 0, nil},
		"empty":                       {[]int{}, 1, nil},
		"nowhere":                     {[]int{1, 2, 3}, 4, nil},
		"nowhere, line 0":             {[]int{1, 2, 3}, 0, nil},
		"nowhere, between":            {[]int{1, 1, 3, 3}, 2, nil},
		"everywhere, one":             {[]int{4}, 4, spans{{0, 1}}},
		"everywhere, three":           {times(3, 4), 4, spans{{0, 3}}},
		"everywhere, 2000":            {times(2000, 4), 4, spans{{0, 2000}}},
		"everywhere, 2001":            {times(2001, 4), 4, spans{{0, 2001}}},
		"once, at the first place":    {[]int{4, 1, 2}, 4, spans{{0, 1}}},
		"once, at a middle place":     {[]int{1, 4, 2}, 4, spans{{1, 2}}},
		"once, at the last place":     {[]int{1, 2, 4}, 4, spans{{2, 3}}},
		"many, at the beginning":      {[]int{4, 4, 4, 1, 2}, 4, spans{{0, 3}}},
		"many, in the middle":         {[]int{1, 4, 4, 4, 2}, 4, spans{{1, 4}}},
		"many, at the end":            {[]int{1, 2, 4, 4, 4}, 4, spans{{2, 5}}},
		"at both ends, one each":      {[]int{4, 1, 2, 4}, 4, spans{{0, 1}, {3, 4}}},
		"at both ends, many each":     {[]int{4, 4, 1, 4, 4, 4}, 4, spans{{0, 2}, {3, 6}}},
		"one other line between":      {[]int{1, 4, 4, 2, 4, 1}, 4, spans{{1, 3}, {4, 5}}},
		"many other lines between":    {[]int{4, 1, 1, 2, 3, 4, 4}, 4, spans{{0, 1}, {5, 7}}},
		"in turn":                     {[]int{1, 2, 1, 2, 1}, 1, spans{{0, 1}, {2, 3}, {4, 5}}},
		"in turn, the other":          {[]int{1, 2, 1, 2, 1}, 2, spans{{1, 2}, {3, 4}}},
		"many spans of two":           {many, 3, threes},
		"many spans of one":           {many, 8, eights},
		"line 0":                      {[]int{0, 0, 1, 0}, 0, spans{{0, 2}, {3, 4}}},
		"line 0, all":                 {times(5, 0), 0, spans{{0, 5}}},
		"line 65535":                  {[]int{65535, 0, 65535, 65535}, 65535, spans{{0, 1}, {2, 4}}},
		"below 0, nowhere":            {[]int{0, 1, 2}, -1, nil},
		"below 0, it is there":        {[]int{-1, 1, -1, -1}, -1, spans{{0, 1}, {2, 4}}},
		"above 65535, nowhere":        {[]int{0, 65535}, 65536, nil},
		"above 65535, it is there":    {[]int{0, 65536, 65536}, 65536, spans{{1, 3}}},
		"the least, nowhere":          {[]int{0, 1}, least, nil},
		"the least, it is there":      {[]int{least, 1, least}, least, spans{{0, 1}, {2, 3}}},
		"the greatest, nowhere":       {[]int{0, 1}, greatest, nil},
		"the greatest, it is there":   {[]int{least, greatest, greatest}, greatest, spans{{1, 3}}},
		"alike but for high bits":     {[]int{5, 5 + 1<<32, 5 + 1<<62, 5}, 5, spans{{0, 1}, {3, 4}}},
		"alike but for high bits, 16": {[]int{5, 5 + 1<<16, 5}, 5 + 1<<16, spans{{1, 2}}},
		"alike but for the sign":      {[]int{5, -5, -5, 5}, -5, spans{{1, 3}}},
		"its place is its number":     {[]int{0, 1, 2, 3}, 2, spans{{2, 3}}},
	} {
		holds(t, name, lines.Of(x.l, x.line), x.want)
	}
}

func TestOfManyTables(t *testing.T) { // P12.1
	for _, l := range append(tables(), wrongs()...) {
		for _, line := range []int{-1, 0, 1, 2, 3, 5, 9, 65534, 65535, 65536, least, greatest, at(l, len(l)/2), at(l, len(l)-1)} {
			holds(t, "Of", lines.Of(l, line), of(l, line))
		}
	}
}

func TestOfTellsEachInstructionOnce(t *testing.T) { // P12.1: in order, each span as long as may be
	held := 0
	for _, l := range append(tables(), wrongs()...) {
		asked := slices.Compact(slices.Sorted(slices.Values(l)))
		if len(asked) > 50 {
			continue // each takes its time
		}
		held++
		met := make([]int, len(l))
		for _, line := range asked {
			behind := -1
			for _, s := range lines.Of(l, line) {
				if s.From <= behind || s.To <= s.From || s.To > len(l) {
					t.Fatalf("of line %d in %v: %v is no span, or not beyond the one ahead, which ends at %d", line, short(l), s, behind)
				}
				behind = s.To
				for pc := s.From; pc < s.To; pc++ {
					met[pc]++
					if lines.At(l, pc) != line {
						t.Fatalf("of line %d in %v: %v, but %d is of line %d", line, short(l), s, pc, lines.At(l, pc))
					}
				}
			}
		}
		holds(t, "how often each instruction is told", met, times(len(l), 1))
	}
	if held < 500 {
		t.Errorf("there are %d tables: too few to tell", held)
	}
}

func TestOfAsksNothingBehindTheEnd(t *testing.T) { // P12.1
	l := []int{4, 4, 5, 4, 4}
	holds(t, "of a part", lines.Of(l[1:4], 4), spans{{0, 1}, {2, 3}})
	holds(t, "of a beginning", lines.Of(l[:1], 4), spans{{0, 1}})
	holds(t, "of nothing", lines.Of(l[:0], 4), nil)
}

func TestOfTellsNewMemory(t *testing.T) { // P12.1, R3
	l := []int{4, 4, 5, 4, 5}
	first, second := lines.Of(l, 4), lines.Of(l, 4)
	first[0], first[1] = lines.Span{From: 7, To: 8}, lines.Span{}
	_ = append(first, lines.Span{From: 9, To: 9})
	holds(t, "another answer", second, spans{{0, 2}, {3, 4}})
	holds(t, "a later answer", lines.Of(l, 4), spans{{0, 2}, {3, 4}})
	holds(t, "what was handed in", l, []int{4, 4, 5, 4, 5})
	l[0], l[2], l[3] = 9, 9, 9
	holds(t, "an answer behind whose back the table changes", second, spans{{0, 2}, {3, 4}})
	holds(t, "an answer of the table as it is now", lines.Of(l, 4), spans{{1, 2}})
}

func TestPutOfNamedTables(t *testing.T) { // P12.2
	for name, x := range map[string]struct {
		l    []int
		want []byte
	}{
		"nil":                       {nil, nil},
		"empty":                     {[]int{}, nil},
		"line 0":                    {[]int{0}, []byte{1, 0}},
		"line 1":                    {[]int{1}, []byte{1, 2}},
		"line 64":                   {[]int{64}, []byte{1, 128, 1}},
		"line 65535":                {[]int{65535}, []byte{1, 254, 255, 7}},
		"two alike":                 {[]int{7, 7}, []byte{2, 14}},
		"7 7 9":                     {[]int{7, 7, 9}, []byte{2, 14, 1, 18}},
		"unlike":                    {[]int{1, 2, 1}, []byte{1, 2, 1, 4, 1, 2}},
		"127 alike":                 {times(127, 3), []byte{127, 6}},
		"128 alike":                 {times(128, 3), []byte{128, 1, 6}},
		"300 alike, and one":        {append(times(300, 2), 0), []byte{172, 2, 4, 1, 0}},
		"2000 alike":                {times(2000, 0), []byte{208, 15, 0}},
		"2001 alike":                {times(2001, 0), []byte{209, 15, 0}},
		"line -1, that may not be":  {[]int{-1}, []byte{1, 1}},
		"line 65536, the same":      {[]int{65536}, []byte{1, 128, 128, 8}},
		"one that may not, between": {[]int{1, -1, 1}, []byte{1, 2, 1, 1, 1, 2}},
		"the least":                 {[]int{least}, append([]byte{1}, filled(9, 255, 1)...)},
		"the greatest, two of it":   {[]int{greatest, greatest}, append([]byte{2, 254}, filled(8, 255, 1)...)},
	} {
		holds(t, name, lines.Put(nil, x.l), x.want)
		for _, ahead := range [][]byte{{}, {0}, {1, 2}, {128}, filled(20, 255)} {
			holds(t, name+", behind others", lines.Put(slices.Clone(ahead), x.l), joined(ahead, x.want))
		}
	}
}

func TestPutOfManyTables(t *testing.T) { // P12.2
	for _, l := range append(tables(), wrongs()...) {
		for _, ahead := range [][]byte{nil, {7, 128}} {
			holds(t, "Put", lines.Put(slices.Clone(ahead), l), joined(ahead, laid(l)))
		}
	}
}

func TestPutLeavesWhatIsAheadAndTheRoomBeyond(t *testing.T) { // P12.2, R3
	for _, l := range [][]int{nil, {7}, {7, 7, 300, 65535}, times(128, 1), {1, -1, 1}, {least, greatest}} {
		want := laid(l)
		for room := range 30 {
			whole := append([]byte{9, 200}, filled(room, 99)...)
			got := lines.Put(whole[:2:len(whole)], l)
			holds(t, "Put", got, joined([]byte{9, 200}, want))
			holds(t, "what is ahead", whole[:2], []byte{9, 200})
			for k := 2; k < len(whole); k++ {
				mayBeWritten := room >= len(want) && k < len(got)
				if !mayBeWritten && whole[k] != 99 {
					t.Errorf("Put of %v with room for %d: byte %d behind the list was written", short(l), room, k)
				}
			}
		}
	}
}

func TestPutKeepsNothing(t *testing.T) { // P12.2, R3
	b, l := []byte{1, 2}[:2:2], []int{7, 7, 9}
	got := lines.Put(b, l)
	b[0], b[1], l[0], l[2] = 50, 60, 70, 80
	holds(t, "an answer behind whose back the lists change", got, []byte{1, 2, 2, 14, 1, 18})
	first, second := lines.Put(nil, []int{7}), lines.Put(nil, []int{7})
	first[0] = 9
	_ = append(first, 77)
	holds(t, "another answer", second, []byte{1, 14})
	holds(t, "a later answer", lines.Put(nil, []int{7}), []byte{1, 14})
}

func TestTakeOfNamedBytes(t *testing.T) { // P12.2
	for _, x := range []struct {
		b    []byte
		n    int
		want []int
		size int
	}{
		{[]byte{1, 0}, 1, []int{0}, 2}, {[]byte{1, 2}, 1, []int{1}, 2}, {[]byte{2, 14, 1, 18}, 3, []int{7, 7, 9}, 4}, {[]byte{1, 2, 1, 4, 1, 2}, 3, []int{1, 2, 1}, 6},
		{[]byte{1, 254, 255, 7}, 1, []int{65535}, 4}, {[]byte{2, 0, 1, 254, 255, 7}, 3, []int{0, 0, 65535}, 6}, {[]byte{1, 252, 255, 7, 1, 254, 255, 7}, 2, []int{65534, 65535}, 8},
		{[]byte{127, 6}, 127, times(127, 3), 2}, {[]byte{128, 1, 6}, 128, times(128, 3), 3}, {[]byte{208, 15, 0}, 2000, times(2000, 0), 3}, {[]byte{207, 15, 0, 1, 2}, 2000, append(times(1999, 0), 1), 5},
		{[]byte{209, 15, 0}, 2001, times(2001, 0), 3},
		// bytes behind it
		{[]byte{1, 2, 0}, 1, []int{1}, 2}, {[]byte{1, 2, 1, 2}, 1, []int{1}, 2}, {[]byte{1, 2, 128}, 1, []int{1}, 2}, {[]byte{2, 14, 1, 18, 1, 18, 255}, 3, []int{7, 7, 9}, 4}, {[]byte{3, 0, 9, 1}, 3, []int{0, 0, 0}, 2},
		// none
		{nil, 0, nil, 0}, {[]byte{1, 2}, 0, nil, 0}, {[]byte{0}, 0, nil, 0}, {[]byte{128, 0}, 0, nil, 0}, {nil, -1, nil, 0}, {[]byte{1, 2}, -1, nil, 0}, {[]byte{255}, least, nil, 0}, {[]byte{1, 1}, -2000, nil, 0},
	} {
		takes(t, x.b, x.n, x.want, x.size, api.OK)
	}
}

func TestTakeOfABrokenRun(t *testing.T) { // P12.2
	for name, x := range map[string]struct {
		b   []byte
		n   int
		err api.Errno
	}{
		"no bytes":                       {nil, 1, api.ErrShort},
		"no bytes, many":                 {nil, 2000, api.ErrShort},
		"no bytes, the greatest n":       {nil, greatest, api.ErrShort},
		"within N":                       {[]byte{128}, 200, api.ErrShort},
		"within N, more bytes":           {filled(9, 255), 200, api.ErrShort},
		"no line":                        {[]byte{1}, 1, api.ErrShort},
		"within a line":                  {[]byte{1, 128}, 1, api.ErrShort},
		"within 65535":                   {[]byte{1, 254, 255}, 1, api.ErrShort},
		"ahead of the second run":        {[]byte{1, 2}, 2, api.ErrShort},
		"ahead of the second, line 0":    {[]byte{1, 0}, 2, api.ErrShort},
		"ahead of it, the greatest n":    {[]byte{1, 0}, greatest, api.ErrShort},
		"within the second N":            {[]byte{1, 2, 129}, 200, api.ErrShort},
		"no second line":                 {[]byte{1, 2, 1}, 2, api.ErrShort},
		"no second line, behind line 0":  {[]byte{1, 0, 1}, 2, api.ErrShort},
		"within the second line":         {[]byte{1, 2, 1, 255}, 2, api.ErrShort},
		"within it, behind line 0":       {[]byte{1, 0, 1, 128}, 2, api.ErrShort},
		"N too long":                     {[]byte{129, 0, 2}, 1, api.ErrLong},
		"N too long, of 0":               {[]byte{128, 0, 2}, 1, api.ErrLong},
		"second N too long":              {[]byte{1, 2, 129, 0, 4}, 2, api.ErrLong},
		"line too long":                  {[]byte{1, 130, 0}, 1, api.ErrLong},
		"line too long, of 0":            {[]byte{1, 128, 0}, 1, api.ErrLong},
		"line too long, of -1":           {[]byte{1, 129, 0}, 1, api.ErrLong},
		"second line too long, of 0":     {[]byte{1, 0, 1, 128, 0}, 2, api.ErrLong},
		"N with a tenth byte of 2":       {joined(filled(9, 255, 2), []byte{0}), 1, api.ErrForm},
		"line with a tenth byte of 2":    {joined([]byte{1}, filled(9, 255, 2)), 1, api.ErrForm},
		"run of none":                    {[]byte{0, 2}, 1, api.ErrForm},
		"run of none, many":              {[]byte{0, 2, 1, 2}, 2000, api.ErrForm},
		"second run of none":             {[]byte{1, 2, 0, 4, 1, 6}, 2, api.ErrForm},
		"last run of none":               {[]byte{1, 2, 1, 4, 0, 6}, 3, api.ErrForm},
		"one too many":                   {[]byte{2, 2}, 1, api.ErrForm},
		"2001 of 2000":                   {run(2001, 1), 2000, api.ErrForm},
		"second one too many":            {[]byte{2, 2, 2, 4}, 3, api.ErrForm},
		"third one too many":             {[]byte{1, 2, 1, 4, 2, 6}, 3, api.ErrForm},
		"the greatest run":               {run(greatest, 1), 2000, api.ErrForm},
		"a run of 64 bits":               {run(math.MaxUint64, 1), greatest, api.ErrForm},
		"as 1, but for a high bit":       {run(1<<32+1, 1), 1, api.ErrForm},
		"the second of 64 bits":          {joined([]byte{1, 2}, run(math.MaxUint64, 2)), 5, api.ErrForm},
		"the line of the one ahead":      {[]byte{1, 2, 1, 2}, 2, api.ErrForm},
		"the same, line 0":               {[]byte{1, 0, 1, 0}, 2, api.ErrForm},
		"the same, line 65535":           {joined(run(1, 65535), run(3, 65535)), 4, api.ErrForm},
		"the same, later":                {[]byte{1, 2, 1, 4, 2, 4}, 4, api.ErrForm},
		"line -1":                        {[]byte{1, 1}, 1, api.ErrArg},
		"line 65536":                     {[]byte{1, 128, 128, 8}, 1, api.ErrArg},
		"line -2":                        {[]byte{1, 3}, 1, api.ErrArg},
		"line 65537":                     {[]byte{1, 130, 128, 8}, 1, api.ErrArg},
		"line -65535":                    {run(1, -65535), 1, api.ErrArg},
		"the least line":                 {run(1, least), 1, api.ErrArg},
		"the greatest line":              {run(1, greatest), 1, api.ErrArg},
		"line -1 of many":                {run(2000, -1), 2000, api.ErrArg},
		"second line -1":                 {[]byte{1, 2, 1, 1}, 2, api.ErrArg},
		"second line 65536":              {joined([]byte{1, 2}, run(1, 65536)), 2, api.ErrArg},
		"second line -1, of three":       {[]byte{1, 2, 1, 1, 1, 2}, 3, api.ErrArg},
		"third line 65536":               {joined([]byte{1, 2, 1, 4}, run(1, 65536)), 3, api.ErrArg},
		"a line, but for bits beyond 32": {run(1, 1<<32+5), 1, api.ErrArg},
		"a line, but for bits beyond 16": {run(1, 1<<16+5), 1, api.ErrArg},
	} {
		t.Run(name, func(t *testing.T) {
			takes(t, x.b, x.n, nil, 0, x.err)
			if x.err == api.ErrShort {
				return
			}
			for _, behind := range [][]byte{{0}, {1, 2}, {128}, {1, 6, 1, 8, 1, 10}} {
				takes(t, joined(x.b, behind), x.n, nil, 0, x.err)
			}
		})
	}
}

func TestTakeTellsTheErrorThatIsNamedFirst(t *testing.T) { // P12.2, R2: run by run, N ahead of the line
	above := run(1, 65536)
	for name, x := range map[string]struct {
		b   []byte
		n   int
		err api.Errno
	}{
		"run of none, no line":               {[]byte{0}, 1, api.ErrForm},
		"run of none, within the line":       {[]byte{0, 128}, 1, api.ErrForm},
		"run of none, line too long":         {[]byte{0, 130, 0}, 1, api.ErrForm},
		"run of none, line -1":               {[]byte{0, 1}, 1, api.ErrForm},
		"too many, no line":                  {[]byte{2}, 1, api.ErrForm},
		"too many, within the line":          {[]byte{2, 128}, 1, api.ErrForm},
		"too many, line too long":            {[]byte{2, 130, 0}, 1, api.ErrForm},
		"too many, line -1":                  {[]byte{2, 1}, 1, api.ErrForm},
		"too many, line 65536":               {run(2, 65536), 1, api.ErrForm},
		"N too long, line -1":                {[]byte{129, 0, 1}, 1, api.ErrLong},
		"second of none, no line":            {[]byte{1, 10, 0}, 2, api.ErrForm},
		"line too long, second of none":      {[]byte{1, 138, 0, 0, 10}, 2, api.ErrLong},
		"line -1, second of none":            {[]byte{1, 1, 0, 10}, 2, api.ErrArg},
		"line -1, second too many":           {[]byte{1, 1, 9, 10}, 2, api.ErrArg},
		"line -1, no second":                 {[]byte{1, 1}, 2, api.ErrArg},
		"line -1, twice":                     {[]byte{1, 1, 1, 1}, 2, api.ErrArg},
		"line 65536, no second":              {above, 2, api.ErrArg},
		"line 65536, twice":                  {joined(above, above), 2, api.ErrArg},
		"line 65536, second too long":        {joined(above, []byte{129, 0, 2}), 2, api.ErrArg},
		"second again, third N too long":     {[]byte{1, 10, 1, 10, 129, 0, 12}, 3, api.ErrForm},
		"second again, third line -1":        {[]byte{1, 10, 1, 10, 1, 1}, 3, api.ErrForm},
		"second line -1, third again":        {[]byte{1, 10, 1, 1, 1, 1}, 3, api.ErrArg},
		"second line -1, no third":           {[]byte{1, 10, 1, 1}, 3, api.ErrArg},
		"second 65536, third of none":        {joined([]byte{1, 10}, above, []byte{0}), 3, api.ErrArg},
		"second of none, its line again":     {[]byte{1, 10, 0, 10}, 2, api.ErrForm},
		"cut off within an N that is wrong":  {[]byte{1, 10, 130}, 2, api.ErrShort},
		"cut off within a line that repeats": {[]byte{1, 128, 1, 1, 128}, 2, api.ErrShort},
	} {
		t.Run(name, func(t *testing.T) { takes(t, x.b, x.n, nil, 0, x.err) })
	}
}

func TestTakeOfFewerAndOfMore(t *testing.T) { // P12.2
	b := lines.Put(nil, []int{5, 5, 5, 6, 5, 5})
	for n, want := range map[int]api.Errno{
		1: api.ErrForm, 2: api.ErrForm, 3: api.OK, 4: api.OK, 5: api.ErrForm, 6: api.OK,
		7: api.ErrShort, 8: api.ErrShort, 2000: api.ErrShort, 1 << 40: api.ErrShort, greatest: api.ErrShort,
	} {
		var l []int
		size := 0
		if want == api.OK {
			l = []int{5, 5, 5, 6, 5, 5}[:n]
			size = map[int]int{3: 2, 4: 4, 6: 6}[n]
		}
		takes(t, b, n, l, size, want)
	}
}

func TestTakeOfEachLine(t *testing.T) { // P12.2
	for line := -70000; line < 140000; line++ {
		var want []int
		err, b := api.ErrArg, run(2, line)
		if line >= 0 && line <= 65535 {
			want, err = []int{line, line}, api.OK
		}
		takes(t, b, 2, want, len(b), err)
	}
}

func TestTakeOfALineAtEachPlace(t *testing.T) { // P12.2: at the first, a middle and the last
	for _, place := range []int{0, 1, 50, 98, 99} {
		for _, line := range append(none(), 0, 1, 65534, 65535) {
			l := rising(100, 3000)
			l[place] = line
			takesAs(t, lines.Put(nil, l), len(l))
		}
	}
}

func TestTakeOfAllShortBytes(t *testing.T) { // P12.2
	for size := range 6 {
		for of := range 1 << (3 * size) {
			b := make([]byte, size)
			for k := range b {
				b[k] = []byte{0, 1, 2, 3, 4, 128, 129, 255}[of>>(3*k)&7]
			}
			for _, n := range []int{-1, 0, 1, 2, 3, 300} {
				takesAs(t, b, n)
			}
		}
	}
}

func TestTakeOfACutTable(t *testing.T) { // P12.2
	for _, l := range [][]int{{0}, {65535}, {7, 7, 9}, rising(100, 0), times(300, 3), rising(100, 65000)} {
		b := lines.Put(nil, l)
		for size := range b {
			takes(t, b[:size], len(l), nil, 0, api.ErrShort)
		}
	}
}

func TestTakeOfATableWithAByteChanged(t *testing.T) { // P12.2
	for _, l := range [][]int{{0}, {65535}, {7, 7, 9}, rising(20, 0), times(300, 3), {65535, 0, 65535, 1, 1, 2}} {
		b := lines.Put(nil, l)
		for k := range b {
			for x := range 256 {
				changed := slices.Clone(b)
				changed[k] = byte(x)
				takesAs(t, changed, len(l))
			}
		}
	}
}

func TestTakeOfAGreatTableThatIsWrong(t *testing.T) { // P12.2, R1, R6: an answer of none needs no memory for it
	for _, n := range []int{1 << 31, 1 << 40, 1 << 62, greatest} {
		for _, x := range []struct {
			behind []byte
			err    api.Errno
		}{
			{nil, api.ErrShort}, {[]byte{0, 6}, api.ErrForm}, {[]byte{2, 6}, api.ErrForm}, {run(greatest, 3), api.ErrForm}, {[]byte{1, 4}, api.ErrForm},
			{[]byte{1, 1}, api.ErrArg}, {run(1, 65536), api.ErrArg}, {[]byte{129, 0, 6}, api.ErrLong}, {[]byte{1, 134}, api.ErrShort},
		} {
			takes(t, joined(run(uint64(n-1), 2), x.behind), n, nil, 0, x.err)
		}
	}
}

func TestTakeOfAGreatTableEnds(t *testing.T) { // R1: what is beyond the bound is promised nothing but that
	for _, n := range []int{1 << 40, 1 << 62, greatest} {
		c := cursor.New(joined(run(uint64(n-1), 2), run(1, 3)))
		if l := lines.Take(c, n); len(l) > 0 || c.Err() == api.OK {
			t.Errorf("a table of %d: %d lines, error %d", n, len(l), c.Err())
		}
	}
}

func TestTakeLeavesWhatIsBehind(t *testing.T) { // P12.2
	c := cursor.New(joined(lines.Put(nil, []int{7, 7, 9}), []byte{77}, lines.Put(nil, times(200, 9)), []byte{172, 2}))
	holds(t, "the first", lines.Take(c, 3), []int{7, 7, 9})
	holds(t, "none of 0", lines.Take(c, 0), nil)
	holds(t, "none of -1", lines.Take(c, -1), nil)
	if got := c.Byte(); got != 77 {
		t.Errorf("the byte behind it: %d, want 77", got)
	}
	holds(t, "the second", lines.Take(c, 200), times(200, 9))
	if got := c.Num(300); got != 300 || c.End() != api.OK {
		t.Errorf("the number behind it: %d, error %d, %d left", got, c.End(), c.Left())
	}
	holds(t, "none of 0 behind the end", lines.Take(c, 0), nil)
	if c.Err() != api.OK {
		t.Errorf("none of 0 behind the end: error %d", c.Err())
	}
	holds(t, "behind the end", lines.Take(c, 1), nil)
	if c.Err() != api.ErrShort {
		t.Errorf("behind the end: error %d", c.Err())
	}
}

func TestTakeBehindAnError(t *testing.T) { // P12.2, R2: the cursor's error stays
	for _, err := range []api.Errno{api.ErrMade, api.ErrArg, api.ErrShort, api.ErrLong, api.ErrForm, api.ErrMany, api.ErrType, api.ErrNone, 77, -1} {
		for _, b := range [][]byte{nil, {1, 2}, {2, 2, 1, 4}, {1, 1}, {0}, {1}, {128, 0}} {
			for _, n := range []int{least, -1, 0, 1, 2, 3, 2000, greatest} {
				c := cursor.New(b)
				c.Fail(err)
				for range 2 {
					if got := lines.Take(c, n); len(got) != 0 || c.Err() != err || c.Left() != 0 || c.End() != err {
						t.Errorf("Take of %v behind error %d, n %d: %v, error %d, %d left", b, err, n, got, c.Err(), c.Left())
					}
				}
			}
		}
	}
}

func TestTakeKeepsTheFirstError(t *testing.T) { // P12.2, R2: and takes nothing more
	for _, b := range [][]byte{nil, {128}, {128, 0, 1, 2}, {0, 2, 1, 2}, {9, 2, 1, 2}, {1, 1, 1, 2}, {1, 2, 1, 2, 1, 4}, {1, 2, 1, 128, 128, 8, 1, 2}, filled(12, 255, 0)} {
		_, _, err := taken(b, 3)
		c := cursor.New(b)
		for n := 3; n >= 0; n-- {
			if got := lines.Take(c, n); len(got) != 0 || c.Err() != err || c.Left() != 0 {
				t.Errorf("Take of %v, n %d: %v, error %d, %d left, want error %d", b, n, got, c.Err(), c.Left(), err)
			}
		}
		c.Fail(api.ErrNone)
		if got := c.Byte(); got != 0 || c.Err() != err || c.End() != err {
			t.Errorf("behind Take of %v: byte %d, error %d, want %d", b, got, c.Err(), err)
		}
	}
}

func TestTakeOfACursorThatNoCallMade(t *testing.T) { // P12.2, R1, R5
	for _, n := range []int{least, -1, 0, 1, 2, 2000, greatest} {
		if got := lines.Take(nil, n); len(got) != 0 {
			t.Errorf("Take of nil, n %d: %v", n, got)
		}
		c := new(cursor.Cursor)
		for range 2 {
			if got := lines.Take(c, n); len(got) != 0 || c.Err() != api.ErrMade || c.Left() != 0 {
				t.Errorf("Take of a zero cursor, n %d: %v, error %d", n, got, c.Err())
			}
		}
	}
}

func TestTakeTellsNewMemory(t *testing.T) { // P12.2, R3
	room := []byte{2, 14, 1, 18, 77, 88}
	was := slices.Clone(room)
	first := lines.Take(cursor.New(room[:4]), 3)
	second := lines.Take(cursor.New(room[:4]), 3)
	first[0], first[2] = 50, 60
	_ = append(first, 5)
	holds(t, "another answer", second, []int{7, 7, 9})
	holds(t, "a later answer", lines.Take(cursor.New(room[:4]), 3), []int{7, 7, 9})
	holds(t, "what was handed in", room, was)
	c := cursor.New([]byte{2, 2, 1, 4, 1, 6})
	first = append(lines.Take(c, 2), 7, 7)
	second = lines.Take(c, 2)
	second[0] = 9
	holds(t, "the first of two", first, []int{1, 1, 7, 7})
	holds(t, "the second of two", second, []int{9, 3})
}

func TestWhatWasPutIsTaken(t *testing.T) { // P12.2
	var b []byte
	for _, l := range tables() {
		one := lines.Put(nil, l)
		takes(t, one, len(l), l, len(one), api.OK)
		takes(t, joined(one, []byte{1, 2}), len(l), l, len(one), api.OK)
		takes(t, one, len(l)+1, nil, 0, api.ErrShort)
		b = lines.Put(b, l)
	}
	c := cursor.New(b)
	for k, l := range tables() {
		if got := lines.Take(c, len(l)); !slices.Equal(got, l) {
			t.Fatalf("table %d: %v, want %v, error %d", k, short(got), short(l), c.Err())
		}
	}
	if err := c.End(); err != api.OK {
		t.Errorf("behind all: error %d, %d left", err, c.Left())
	}
	for _, l := range wrongs() { // each has a line that may not be
		takes(t, lines.Put(nil, l), len(l), nil, 0, api.ErrArg)
	}
}

func TestWhatIsTakenIsPut(t *testing.T) { // P12.2: bytes that are taken are just those that are put
	d := dice(5)
	held := 0
	for range 60000 {
		b := make([]byte, 1+d.roll(10))
		small := 3 + d.roll(5)
		for k := range b {
			b[k] = byte(d.roll(small))
		}
		n := d.roll(10) - 1
		takesAs(t, b, n)
		c := cursor.New(b)
		if l := lines.Take(c, n); n > 0 && c.Err() == api.OK {
			held++
			holds(t, "what was taken, put again", lines.Put(nil, l), b[:len(b)-c.Left()])
		}
	}
	if held < 2000 {
		t.Errorf("of the bytes %d begin with a table: too few to tell", held)
	}
}

func TestNothingIsChanged(t *testing.T) { // R3: neither the tables, nor what lies behind their ends
	for _, l := range append(tables(), wrongs()...) {
		whole := append(slices.Clone(l), 5, -6, 7)
		was := slices.Clone(whole)
		part := whole[:len(l)]
		lines.Right(part)
		lines.At(part, len(l)-1)
		lines.At(part, len(l))
		lines.Of(part, 5)
		lines.Put(nil, part)
		lines.Put([]byte{1, 2, 3}, part)
		holds(t, "what was handed in", whole, was)
	}
}

func TestTheSameEachTime(t *testing.T) { // R4
	ask := func(l []int) (bool, []int, spans, []byte, []int, api.Errno) {
		b := lines.Put(nil, l)
		c := cursor.New(b)
		got := lines.Take(c, len(l))
		return lines.Right(l), []int{lines.At(l, 0), lines.At(l, len(l)/2), lines.At(l, len(l))}, lines.Of(l, 1), b, got, c.Err()
	}
	all := append(tables(), wrongs()...)
	for k := range all {
		first, other := all[k], all[len(all)-1-k] // another one between
		right1, at1, of1, put1, taken1, err1 := ask(first)
		ask(other)
		right2, at2, of2, put2, taken2, err2 := ask(first)
		holds(t, "At", at2, at1)
		holds(t, "Of", of2, of1)
		holds(t, "Put", put2, put1)
		holds(t, "Take", taken2, taken1)
		if right1 != right2 || err1 != err2 {
			t.Errorf("of %v: %t, error %d, and then %t, error %d", short(first), right1, err1, right2, err2)
		}
	}
}

func FuzzTake(f *testing.F) { // P12.2, P1
	f.Add([]byte{2, 14, 1, 18}, int16(3))
	f.Add([]byte{2, 14, 1, 14}, int16(3))
	f.Add([]byte{172, 2, 0}, int16(300))
	f.Add([]byte{1, 254, 255, 7, 1, 128, 128, 8}, int16(2))
	f.Add(filled(12, 255), int16(-1))
	f.Fuzz(func(t *testing.T, b []byte, n int16) {
		was := slices.Clone(b)
		takesAs(t, b, int(n))
		c := cursor.New(b)
		if l := lines.Take(c, int(n)); c.Err() == api.OK {
			holds(t, "what was taken, put again", lines.Put(nil, l), b[:len(b)-c.Left()])
		}
		holds(t, "what was handed in", b, was)
	})
}

func FuzzTable(f *testing.F) { // P12.1, P12.2, P1: of each byte a line, as far from 0 as there is a shift
	f.Add([]byte{1, 1, 2, 1}, uint8(0), 0)
	f.Add([]byte{0, 255, 255, 3}, uint8(8), 2)
	f.Add([]byte{128, 127, 128}, uint8(56), -1)
	f.Add([]byte{}, uint8(0), least)
	f.Fuzz(func(t *testing.T, b []byte, shift uint8, pc int) {
		var l []int
		for _, x := range b {
			l = append(l, int(int8(x))<<(shift%64))
		}
		was := slices.Clone(l)
		if got := lines.Right(l); got != right(l) {
			t.Errorf("Right of %v: %t", short(l), got)
		}
		line := lines.At(l, pc)
		if line != at(l, pc) {
			t.Errorf("At of %v, instruction %d: %d", short(l), pc, line)
		}
		holds(t, "Of", lines.Of(l, line), of(l, line))
		holds(t, "Of, by a number", lines.Of(l, pc), of(l, pc))
		holds(t, "Put", lines.Put(nil, l), laid(l))
		takesAs(t, lines.Put(nil, l), len(l))
		holds(t, "what was handed in", l, was)
	})
}
