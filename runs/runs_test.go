package runs_test

import (
	"bytes"
	"math"
	"math/big"
	"slices"
	"testing"

	"inlay/api"
	"inlay/cursor"
	"inlay/runs"
	"inlay/uvar"
)

// most is how many numbers the chapter says that runs have in all.
const most = 2000

type rs = []runs.Run

// times tells n numbers v.
func times(n, v int) []int {
	return slices.Repeat([]int{v}, n)
}

// rising tells the n numbers from from on, none of which is like the one ahead.
func rising(n, from int) []int {
	var l []int
	for k := range n {
		l = append(l, from+k)
	}
	return l
}

// dice tells numbers that look like any, the same ones each time.
type dice uint64

func (d *dice) roll(n int) int {
	*d = *d*6364136223846793005 + 1442695040888963407
	return int(*d >> 33 % dice(n))
}

// rows tells rows: those that the issue of this layer names, and any.
func rows() [][]int {
	l := [][]int{
		nil, {}, {0}, {-1}, {7}, {math.MinInt}, {math.MaxInt},
		{7, 7, 9}, {7, 9, 9}, {7, 9, 7}, {7, 7, 9, 9, 7, 7}, {0, 0}, {0, 0, 0, 1}, {0, -1, 0, -1},
		{math.MinInt, math.MinInt}, {math.MaxInt, math.MaxInt, math.MaxInt},
		{math.MinInt, math.MaxInt}, {math.MaxInt, math.MinInt, math.MinInt, math.MaxInt},
		times(127, 3), times(128, 3), times(300, -3), times(1999, 5), times(2000, 5),
		rising(200, -100), rising(1999, 0), rising(2000, -1000),
		append(times(1999, 4), 5), append([]int{5}, times(1999, 4)...),
	}
	d := dice(4)
	for k := range 200 {
		var row []int
		for range d.roll(most + 1) {
			if len(row) > 0 && d.roll(k%9+1) > 0 {
				row = append(row, row[len(row)-1])
			} else {
				row = append(row, (d.roll(5)-2)<<(d.roll(61)))
			}
		}
		l = append(l, row)
	}
	return l
}

// plain tells the row of runs, one number after the other, as far as 2000.
func plain(r rs) []int {
	var l []int
	for _, run := range r {
		for k := 0; k < run.N && len(l) < most; k++ {
			l = append(l, run.V)
		}
	}
	return l
}

// laid tells the bytes of runs, one behind the other, be they right or not.
func laid(r ...runs.Run) []byte {
	var b []byte
	for _, run := range r {
		b = uvar.Put(b, uint64(run.N))
		b = uvar.PutInt(b, run.V)
	}
	return b
}

// filled tells k bytes c, and others behind them.
func filled(k int, c byte, behind ...byte) []byte {
	return append(bytes.Repeat([]byte{c}, k), behind...)
}

// joined tells bytes one behind the other.
func joined(parts ...[]byte) []byte {
	return bytes.Join(parts, nil)
}

func sameRuns(t *testing.T, what string, got, want rs) {
	t.Helper()
	if !slices.Equal(got, want) {
		t.Errorf("%s: %v, want %v", what, got, want)
	}
}

func sameRow(t *testing.T, what string, got, want []int) {
	t.Helper()
	if !slices.Equal(got, want) {
		t.Errorf("%s: %d numbers %v, want %d numbers %v", what, len(got), got, len(want), want)
	}
}

func TestExample(t *testing.T) {
	sameRuns(t, "Of", runs.Of([]int{7, 7, 9}), rs{{N: 2, V: 7}, {N: 1, V: 9}})
}

func TestOfNamedRows(t *testing.T) { // P4.1
	for name, x := range map[string]struct {
		l    []int
		want rs
	}{
		"nil":                        {nil, nil},
		"empty":                      {[]int{}, nil},
		"one":                        {[]int{7}, rs{{1, 7}}},
		"0":                          {[]int{0}, rs{{1, 0}}},
		"the least":                  {[]int{math.MinInt}, rs{{1, math.MinInt}}},
		"the greatest":               {[]int{math.MaxInt}, rs{{1, math.MaxInt}}},
		"all alike":                  {times(5, 3), rs{{5, 3}}},
		"all 0":                      {times(3, 0), rs{{3, 0}}},
		"2000 alike":                 {times(2000, -1), rs{{2000, -1}}},
		"more than 2000 alike":       {times(2001, -1), rs{{2001, -1}}},
		"100000 alike":               {times(100000, 9), rs{{100000, 9}}},
		"none like the one ahead":    {[]int{1, 2, 3}, rs{{1, 1}, {1, 2}, {1, 3}}},
		"two in turn":                {[]int{1, 2, 1, 2}, rs{{1, 1}, {1, 2}, {1, 1}, {1, 2}}},
		"alike again later":          {[]int{4, 4, 5, 4, 4, 4}, rs{{2, 4}, {1, 5}, {3, 4}}},
		"alike at the beginning":     {[]int{4, 4, 4, 5}, rs{{3, 4}, {1, 5}}},
		"alike at the end":           {[]int{5, 4, 4, 4}, rs{{1, 5}, {3, 4}}},
		"falling":                    {[]int{3, 3, 2, 1, 1}, rs{{2, 3}, {1, 2}, {2, 1}}},
		"0 behind another":           {[]int{1, 0, 0}, rs{{1, 1}, {2, 0}}},
		"of either sign":             {[]int{-5, 5, -5, -5}, rs{{1, -5}, {1, 5}, {2, -5}}},
		"the least, the greatest":    {[]int{math.MinInt, math.MinInt, math.MaxInt}, rs{{2, math.MinInt}, {1, math.MaxInt}}},
		"alike but for high bits":    {[]int{1, 1 + 1<<32, 1 + 1<<62}, rs{{1, 1}, {1, 1 + 1<<32}, {1, 1 + 1<<62}}},
		"the greatest, and one less": {[]int{math.MaxInt, math.MaxInt - 1}, rs{{1, math.MaxInt}, {1, math.MaxInt - 1}}},
	} {
		sameRuns(t, name, runs.Of(x.l), x.want)
	}
}

func TestOfManyRows(t *testing.T) { // P4.1
	for _, l := range rows() {
		r := runs.Of(l)
		for i, run := range r {
			if run.N < 1 {
				t.Fatalf("Of %v: run %d has N %d", l, i, run.N)
			}
			if i > 0 && r[i-1].V == run.V {
				t.Fatalf("Of %v: run %d has the V of the one ahead: it is not as long as may be", l, i)
			}
		}
		sameRow(t, "the numbers of its runs", plain(r), l)
	}
}

func TestRowOfNamedRuns(t *testing.T) { // P4.1
	for name, x := range map[string]struct {
		r    rs
		want []int
	}{
		"nil":                        {nil, nil},
		"empty":                      {rs{}, nil},
		"one":                        {rs{{1, 5}}, []int{5}},
		"two alike":                  {rs{{2, 5}}, []int{5, 5}},
		"two runs":                   {rs{{2, 7}, {1, 9}}, []int{7, 7, 9}},
		"one V again":                {rs{{2, 7}, {1, 7}}, []int{7, 7, 7}},
		"the least, the greatest":    {rs{{1, math.MinInt}, {2, math.MaxInt}}, []int{math.MinInt, math.MaxInt, math.MaxInt}},
		"N of 0":                     {rs{{0, 5}}, nil},
		"N of -1":                    {rs{{-1, 5}}, nil},
		"the least N":                {rs{{math.MinInt, 5}}, nil},
		"N of 0 between":             {rs{{1, 5}, {0, 6}, {1, 7}}, []int{5, 7}},
		"N below 0 between":          {rs{{1, 5}, {-3, 6}, {2, 7}}, []int{5, 7, 7}},
		"the least N between":        {rs{{1, 5}, {math.MinInt, 6}, {2, 7}}, []int{5, 7, 7}},
		"N below 0 first":            {rs{{-2000, 6}, {2, 7}}, []int{7, 7}},
		"just 2000":                  {rs{{2000, 5}}, times(2000, 5)},
		"just 2000 of two":           {rs{{1999, 5}, {1, 6}}, append(times(1999, 5), 6)},
		"2001":                       {rs{{2001, 5}}, times(2000, 5)},
		"bound within the second":    {rs{{1500, 5}, {700, 6}}, append(times(1500, 5), times(500, 6)...)},
		"bound within, one behind":   {rs{{1500, 5}, {501, 6}, {1, 7}}, append(times(1500, 5), times(500, 6)...)},
		"bound between two":          {rs{{2000, 5}, {1, 6}}, times(2000, 5)},
		"bound between later ones":   {rs{{1000, 5}, {1000, 6}, {1, 7}, {5, 8}}, append(times(1000, 5), times(1000, 6)...)},
		"N below 0 gives no room":    {rs{{-500, 4}, {2000, 5}, {-7, 6}, {1, 7}}, times(2000, 5)},
		"N below 0 behind the bound": {rs{{3000, 5}, {-1, 6}, {0, 7}, {math.MinInt, 8}}, times(2000, 5)},
		"the greatest N":             {rs{{math.MaxInt, 5}}, times(2000, 5)},
		"the greatest N behind one":  {rs{{1, 5}, {math.MaxInt, 6}}, append([]int{5}, times(1999, 6)...)},
		"the greatest N twice":       {rs{{math.MaxInt, 5}, {math.MaxInt, 6}}, times(2000, 5)},
		"the greatest N, and two":    {rs{{math.MaxInt, 5}, {math.MaxInt, 6}, {2, 7}}, times(2000, 5)},
		"great N of 32 bits":         {rs{{1 << 32, 5}}, times(2000, 5)},
		"the greatest and the least": {rs{{1999, 5}, {math.MinInt, 6}, {math.MaxInt, 7}}, append(times(1999, 5), 7)},
	} {
		sameRow(t, name, runs.Row(x.r), x.want)
	}
}

func TestRowOfManySmallRuns(t *testing.T) { // P4.1
	for _, count := range []int{1999, 2000, 2001, 5000} {
		var r rs
		for k := range count {
			r = append(r, runs.Run{N: 1, V: k})
		}
		sameRow(t, "Row", runs.Row(r), rising(min(count, most), 0))
	}
}

// anyRuns tells runs that are right or wrong, of sums around the bound, and of great N.
func anyRuns() []rs {
	var l []rs
	d := dice(5)
	ends := []int{math.MinInt, math.MinInt + 1, -2000, -1, 0, 1, 2, 1999, 2000, 2001, 1 << 32, math.MaxInt - 1999, math.MaxInt - 1, math.MaxInt}
	for k := range 3000 {
		var r rs
		for range d.roll(8) {
			run := runs.Run{N: 1 + d.roll(800), V: d.roll(12)}
			if d.roll(k%20+2) == 0 {
				run.N = ends[d.roll(len(ends))]
			}
			r = append(r, run)
		}
		l = append(l, r)
	}
	for _, l0 := range rows() {
		l = append(l, runs.Of(l0))
	}
	return l
}

func TestRowOfManyRuns(t *testing.T) { // P4.1
	for _, r := range anyRuns() {
		sameRow(t, "Row", runs.Row(r), plain(r))
	}
}

func TestRightOfNamedRuns(t *testing.T) { // P4.1
	for name, x := range map[string]struct {
		r    rs
		want bool
	}{
		"nil":                         {nil, true},
		"empty":                       {rs{}, true},
		"one":                         {rs{{1, 5}}, true},
		"0":                           {rs{{1, 0}}, true},
		"0 alike":                     {rs{{5, 0}}, true},
		"two":                         {rs{{1, 5}, {1, 6}}, true},
		"the least, the greatest":     {rs{{1, math.MinInt}, {1, math.MaxInt}, {1, math.MinInt}}, true},
		"one V again later":           {rs{{1, 5}, {1, 6}, {1, 5}}, true},
		"N of 0":                      {rs{{0, 5}}, false},
		"N of -1":                     {rs{{-1, 5}}, false},
		"the least N":                 {rs{{math.MinInt, 5}}, false},
		"N of 0 last":                 {rs{{1, 5}, {0, 6}}, false},
		"N of 0 between":              {rs{{1, 5}, {0, 6}, {1, 7}}, false},
		"N below 0 between":           {rs{{2, 5}, {-1, 6}, {1, 7}}, false},
		"N below 0 for the sum":       {rs{{2000, 5}, {-1, 6}, {1, 7}}, false},
		"the least N for the sum":     {rs{{2000, 5}, {math.MinInt, 6}, {1, 7}}, false},
		"one V twice":                 {rs{{1, 5}, {1, 5}}, false},
		"0 twice":                     {rs{{1, 0}, {2, 0}}, false},
		"one V twice, last":           {rs{{1, 5}, {1, 6}, {1, 6}}, false},
		"one V twice, first":          {rs{{1, 5}, {1, 5}, {1, 6}}, false},
		"the least V twice":           {rs{{1, math.MinInt}, {1, math.MinInt}}, false},
		"V alike but for high bits":   {rs{{1, 1}, {1, 1 + 1<<32}}, true},
		"just 2000":                   {rs{{2000, 5}}, true},
		"just 2000 of two":            {rs{{1999, 5}, {1, 6}}, true},
		"just 2000 of three":          {rs{{1, 5}, {1998, 6}, {1, 5}}, true},
		"2001":                        {rs{{2001, 5}}, false},
		"2001 of two":                 {rs{{2000, 5}, {1, 6}}, false},
		"2001 of two, the first less": {rs{{1, 5}, {2000, 6}}, false},
		"the greatest N":              {rs{{math.MaxInt, 5}}, false},
		"the greatest N behind one":   {rs{{1, 5}, {math.MaxInt, 6}}, false},
		"the greatest N twice":        {rs{{math.MaxInt, 5}, {math.MaxInt, 6}}, false},
		"a sum that goes round to 1":  {rs{{math.MaxInt, 5}, {math.MaxInt, 6}, {3, 7}}, false},
		"a sum that goes round to 0":  {rs{{math.MaxInt, 5}, {math.MaxInt, 6}, {2, 7}}, false},
		"the same, behind a small N":  {rs{{2, 7}, {math.MaxInt, 5}, {math.MaxInt, 6}}, false},
		"a sum of 32 bits":            {rs{{1 << 31, 5}, {1 << 31, 6}}, false},
	} {
		if got := runs.Right(x.r); got != x.want {
			t.Errorf("%s: Right(%v): %t", name, x.r, got)
		}
	}
}

func TestRightOfManySmallRuns(t *testing.T) { // P4.1
	for _, count := range []int{1999, 2000, 2001, 5000} {
		var r rs
		for k := range count {
			r = append(r, runs.Run{N: 1, V: k})
		}
		if got, want := runs.Right(r), count <= most; got != want {
			t.Errorf("Right of %d runs of one: %t", count, got)
		}
	}
}

// right tells by sums without an end what the chapter says that Right tells.
func right(r rs) bool {
	sum := new(big.Int)
	for i, run := range r {
		if run.N < 1 || i > 0 && r[i-1].V == run.V {
			return false
		}
		sum.Add(sum, big.NewInt(int64(run.N)))
	}
	return sum.Cmp(big.NewInt(most)) <= 0
}

func TestRightOfManyRuns(t *testing.T) { // P4.1
	told := map[bool]int{}
	for _, r := range anyRuns() {
		got, want := runs.Right(r), right(r)
		if got != want {
			t.Errorf("Right(%v): %t", r, got)
		}
		told[want]++
	}
	if told[true] < 100 || told[false] < 100 {
		t.Errorf("there are %d that are right and %d that are not: too few of either to tell", told[true], told[false])
	}
}

func TestPutOfNamedRows(t *testing.T) { // P4.2
	for name, x := range map[string]struct {
		l    []int
		want []byte
	}{
		"nil":                     {nil, nil},
		"empty":                   {[]int{}, nil},
		"0":                       {[]int{0}, []byte{1, 0}},
		"1":                       {[]int{1}, []byte{1, 2}},
		"-1":                      {[]int{-1}, []byte{1, 1}},
		"64":                      {[]int{64}, []byte{1, 128, 1}},
		"7 7 9":                   {[]int{7, 7, 9}, []byte{2, 14, 1, 18}},
		"none alike":              {[]int{1, 2, 1}, []byte{1, 2, 1, 4, 1, 2}},
		"127 alike":               {times(127, 3), []byte{127, 6}},
		"128 alike":               {times(128, 3), []byte{128, 1, 6}},
		"300 alike, and one":      {append(times(300, -2), 0), []byte{172, 2, 3, 1, 0}},
		"the least":               {[]int{math.MinInt}, append([]byte{1}, filled(9, 255, 1)...)},
		"the greatest, two of it": {[]int{math.MaxInt, math.MaxInt}, append([]byte{2, 254}, filled(8, 255, 1)...)},
		"2000 alike":              {times(2000, 0), []byte{208, 15, 0}},
		"2001 alike":              {times(2001, 0), []byte{209, 15, 0}},
	} {
		if got := runs.Put(nil, x.l); !bytes.Equal(got, x.want) {
			t.Errorf("%s: Put: %v, want %v", name, got, x.want)
		}
		for _, ahead := range [][]byte{{}, {0}, {1, 2}, {128}, filled(20, 255)} {
			if got, want := runs.Put(slices.Clone(ahead), x.l), joined(ahead, x.want); !bytes.Equal(got, want) {
				t.Errorf("%s: Put behind %v: %v, want %v", name, ahead, got, want)
			}
		}
	}
}

func TestPutOfManyRows(t *testing.T) { // P4.2
	for _, l := range rows() {
		want := laid(runs.Of(l)...)
		if got := runs.Put(nil, l); !bytes.Equal(got, want) {
			t.Fatalf("Put(nil, %v): %v, want %v", l, got, want)
		}
		if got := runs.Put([]byte{7, 128}, l); !bytes.Equal(got, joined([]byte{7, 128}, want)) {
			t.Fatalf("Put behind 7 128 of %v: %v", l, got)
		}
	}
}

func TestPutLeavesWhatIsAheadAndTheRoomBeyond(t *testing.T) { // P4.2, R3
	l := []int{7, 7, 300, math.MinInt}
	want := laid(runs.Of(l)...)
	for room := range 24 {
		whole := append([]byte{9, 200}, filled(room, 99)...)
		got := runs.Put(whole[:2:len(whole)], l)
		if !bytes.Equal(got, joined([]byte{9, 200}, want)) {
			t.Errorf("with room for %d: %v", room, got)
		}
		if whole[0] != 9 || whole[1] != 200 {
			t.Errorf("with room for %d what is ahead became %v", room, whole[:2])
		}
		for i := 2; i < len(whole); i++ {
			mayBeWritten := room >= len(want) && i < len(got)
			if !mayBeWritten && whole[i] != 99 {
				t.Errorf("with room for %d byte %d behind the list was written", room, i)
			}
		}
	}
	whole := []byte{9, 200, 99, 99}
	if got := runs.Put(whole[:2], nil); !bytes.Equal(got, []byte{9, 200}) || whole[2] != 99 || whole[3] != 99 {
		t.Errorf("Put of a row of nothing: %v, and behind it %v", got, whole[2:])
	}
}

func TestPutKeepsNothing(t *testing.T) { // R3
	b, l := []byte{1, 2}[:2:2], []int{7, 7, 9}
	got := runs.Put(b, l)
	b[0], b[1], l[0], l[2] = 50, 60, 70, 80
	if want := []byte{1, 2, 2, 14, 1, 18}; !bytes.Equal(got, want) {
		t.Errorf("an answer of new memory changed with the lists handed in: %v, want %v", got, want)
	}
	first, second := runs.Put(nil, []int{7}), runs.Put(nil, []int{7})
	first[0] = 9
	if second[0] != 1 {
		t.Errorf("two answers share memory")
	}
}

func TestRowsAndRunsThatAreHandedInStay(t *testing.T) { // R3
	for _, l := range rows() {
		room := append(slices.Clone(l), 77, 88)
		was := slices.Clone(room)
		runs.Of(room[:len(l)])
		runs.Put(nil, room[:len(l)])
		runs.Put([]byte{1, 2, 3}, room[:len(l)])
		sameRow(t, "a row that was handed in", room, was)
	}
	for _, r := range anyRuns() {
		room := append(slices.Clone(r), runs.Run{N: 77, V: 88}, runs.Run{N: -99, V: 3})
		was := slices.Clone(room)
		runs.Row(room[:len(r)])
		runs.Right(room[:len(r)])
		sameRuns(t, "runs that were handed in", room, was)
	}
}

func TestAnswersAreNewMemory(t *testing.T) { // R3
	l := []int{7, 7, 9}
	first, second := runs.Of(l), runs.Of(l)
	first[0], first[1] = runs.Run{N: 50, V: 60}, runs.Run{}
	_ = append(first, runs.Run{N: 1, V: 1})
	l[0], l[1], l[2] = 0, 1, 2
	sameRuns(t, "a second answer of Of", second, rs{{2, 7}, {1, 9}})

	r := rs{{2, 7}, {1, 9}}
	row, again := runs.Row(r), runs.Row(r)
	row[0], row[1], row[2] = 50, 60, 70
	_ = append(row, 80)
	r[0], r[1] = runs.Run{}, runs.Run{}
	sameRow(t, "a second answer of Row", again, []int{7, 7, 9})

	b := joined(laid(runs.Run{N: 2, V: 7}, runs.Run{N: 1, V: 9}), laid(runs.Run{N: 3, V: 4}))
	c := cursor.New(b)
	one, other, same := runs.Take(c, 3, 0, 9), runs.Take(c, 3, 0, 9), runs.Take(cursor.New(b), 3, 0, 9)
	one[0], one[1], one[2] = 50, 60, 70
	_ = append(one, 80, 90, 100)
	clear(b)
	sameRow(t, "a second answer of Take", other, []int{4, 4, 4})
	sameRow(t, "the answer of another Take", same, []int{7, 7, 9})
}

// told holds what Take answers against a row, and against how the cursor stands then: its error, and how many bytes are left.
func told(t *testing.T, what string, c *cursor.Cursor, n, low, high int, want []int, err api.Errno, left int) {
	t.Helper()
	got := runs.Take(c, n, low, high)
	if !slices.Equal(got, want) || c.Err() != err || c.Left() != left {
		t.Errorf("%s: Take(.., %d, %d, %d): %v, error %d, left %d, want %v, %d, %d", what, n, low, high, got, c.Err(), c.Left(), want, err, left)
	}
}

func TestTakeOfNamedRows(t *testing.T) { // P4.3
	for name, x := range map[string]struct {
		b         []byte
		low, high int
		want      []int
	}{
		"one":                        {[]byte{1, 0}, 0, 0, []int{0}},
		"all alike":                  {[]byte{3, 14}, 0, 9, []int{7, 7, 7}},
		"7 7 9":                      {[]byte{2, 14, 1, 18}, 0, 9, []int{7, 7, 9}},
		"none alike":                 {[]byte{1, 2, 1, 4, 1, 2}, 0, 2, []int{1, 2, 1}},
		"0 first":                    {[]byte{1, 0, 1, 2}, 0, 1, []int{0, 1}},
		"0 behind another":           {[]byte{1, 2, 2, 0}, 0, 1, []int{1, 0, 0}},
		"below 0":                    {[]byte{1, 3, 2, 1}, -2, -1, []int{-2, -1, -1}},
		"at low and at high":         {laid(runs.Run{N: 1, V: -5}, runs.Run{N: 2, V: 70}), -5, 70, []int{-5, 70, 70}},
		"low is high":                {laid(runs.Run{N: 4, V: 65535}), 65535, 65535, times(4, 65535)},
		"the least, the greatest":    {laid(runs.Run{N: 1, V: math.MinInt}, runs.Run{N: 2, V: math.MaxInt}), math.MinInt, math.MaxInt, []int{math.MinInt, math.MaxInt, math.MaxInt}},
		"the least alone":            {laid(runs.Run{N: 2, V: math.MinInt}), math.MinInt, math.MinInt, times(2, math.MinInt)},
		"the greatest alone":         {laid(runs.Run{N: 2, V: math.MaxInt}), math.MaxInt, math.MaxInt, times(2, math.MaxInt)},
		"300":                        {[]byte{172, 2, 0}, 0, 0, times(300, 0)},
		"2000":                       {[]byte{208, 15, 0}, 0, 0, times(2000, 0)},
		"more than 2000":             {[]byte{209, 15, 0}, 0, 0, times(2001, 0)},
		"more than 2000, two runs":   {laid(runs.Run{N: 2000, V: 1}, runs.Run{N: 3000, V: 2}), 1, 2, append(times(2000, 1), times(3000, 2)...)},
		"one V again, another ahead": {laid(runs.Run{N: 1, V: 5}, runs.Run{N: 1, V: 6}, runs.Run{N: 1, V: 5}), 5, 6, []int{5, 6, 5}},
	} {
		n := len(x.want)
		told(t, name, cursor.New(x.b), n, x.low, x.high, x.want, api.OK, 0)
		for _, behind := range [][]byte{{0}, {1, 1}, {128}, {255, 255, 255}, x.b} {
			c := cursor.New(joined(x.b, behind))
			told(t, name, c, n, x.low, x.high, x.want, api.OK, len(behind))
			if next := c.Byte(); next != behind[0] {
				t.Errorf("%s: behind the row stands %d, want %d", name, next, behind[0])
			}
		}
		c := cursor.New(joined([]byte{9, 200}, x.b))
		c.Byte()
		c.Byte()
		told(t, name+", bytes ahead", c, n, x.low, x.high, x.want, api.OK, 0)
	}
}

func TestTakeOfNone(t *testing.T) { // P4.3
	for _, n := range []int{0, -1, -2, -2000, math.MinInt, math.MinInt + 1, -1 << 32} {
		for _, b := range [][]byte{nil, {0}, {1, 2}, {0, 0}, {128}, {128, 0}, filled(12, 255)} {
			for _, ends := range [][2]int{{0, 9}, {math.MinInt, math.MaxInt}, {9, 0}, {5, 5}} {
				c := cursor.New(b)
				told(t, "none", c, n, ends[0], ends[1], nil, api.OK, len(b))
				if len(b) > 0 && c.Byte() != b[0] {
					t.Errorf("Take of %d took a byte of %v", n, b)
				}
			}
		}
	}
}

func TestTakeOfABrokenRun(t *testing.T) { // P4.3
	least, greatest := math.MinInt, math.MaxInt
	for name, x := range map[string]struct {
		b            []byte
		n, low, high int
		err          api.Errno
	}{
		"nothing ahead of N":                {nil, 1, least, greatest, api.ErrShort},
		"nothing ahead of N, a great n":     {nil, greatest, least, greatest, api.ErrShort},
		"nothing ahead of N, low over high": {nil, 1, 1, 0, api.ErrShort},
		"within N":                          {[]byte{128}, 200, least, greatest, api.ErrShort},
		"within N, more bytes":              {filled(9, 255), 200, least, greatest, api.ErrShort},
		"nothing ahead of V":                {[]byte{1}, 1, least, greatest, api.ErrShort},
		"nothing ahead of V, 0 not in":      {[]byte{1}, 1, 5, 9, api.ErrShort},
		"within V":                          {[]byte{1, 128}, 1, least, greatest, api.ErrShort},
		"within V, 0 not in":                {[]byte{1, 129}, 1, 5, 9, api.ErrShort},
		"ahead of the second N":             {[]byte{1, 0}, 2, least, greatest, api.ErrShort},
		"ahead of the second N, a great n":  {[]byte{1, 0}, greatest, least, greatest, api.ErrShort},
		"within the second N":               {[]byte{1, 0, 129}, 200, least, greatest, api.ErrShort},
		"ahead of the second V":             {[]byte{1, 2, 1}, 2, least, greatest, api.ErrShort},
		"ahead of the second V, behind 0":   {[]byte{1, 0, 1}, 2, least, greatest, api.ErrShort},
		"within the second V":               {[]byte{1, 2, 1, 255}, 2, least, greatest, api.ErrShort},
		"within the second V, behind 0":     {[]byte{1, 0, 1, 128}, 2, least, greatest, api.ErrShort},
		"N too long":                        {[]byte{129, 0, 2}, 1, least, greatest, api.ErrLong},
		"N too long, of 0":                  {[]byte{128, 0, 2}, 1, least, greatest, api.ErrLong},
		"second N too long":                 {[]byte{1, 0, 129, 0, 2}, 2, least, greatest, api.ErrLong},
		"V too long":                        {[]byte{1, 130, 0}, 1, least, greatest, api.ErrLong},
		"V too long, not in":                {[]byte{1, 130, 0}, 1, 50, 60, api.ErrLong},
		"second V too long, behind 0":       {[]byte{1, 0, 1, 128, 0}, 2, least, greatest, api.ErrLong},
		"N with a tenth byte of 2":          {joined(filled(9, 255, 2), []byte{0}), 1, least, greatest, api.ErrForm},
		"V with a tenth byte of 2":          {joined([]byte{1}, filled(9, 255, 2)), 1, least, greatest, api.ErrForm},
		"the same, not in":                  {joined([]byte{1}, filled(9, 255, 2)), 1, 5, 9, api.ErrForm},

		"N of 0":                        {[]byte{0, 2}, 1, least, greatest, api.ErrForm},
		"N of 0, a great n":             {[]byte{0, 2, 1, 2}, greatest, least, greatest, api.ErrForm},
		"second N of 0":                 {[]byte{1, 2, 0, 4, 1, 6}, 2, least, greatest, api.ErrForm},
		"N one too many":                {[]byte{2, 2}, 1, least, greatest, api.ErrForm},
		"N of many too many":            {laid(runs.Run{N: 2001, V: 1}), 2000, least, greatest, api.ErrForm},
		"second N one too many":         {[]byte{2, 2, 2, 4}, 3, least, greatest, api.ErrForm},
		"third N one too many":          {[]byte{1, 2, 1, 4, 2, 6}, 3, least, greatest, api.ErrForm},
		"the greatest N":                {laid(runs.Run{N: greatest, V: 1}), greatest - 1, least, greatest, api.ErrForm},
		"the greatest second N":         {laid(runs.Run{N: 1, V: 1}, runs.Run{N: greatest, V: 2}), 5, least, greatest, api.ErrForm},
		"the same, the greatest n":      {laid(runs.Run{N: 1, V: 1}, runs.Run{N: greatest, V: 2}), greatest, least, greatest, api.ErrForm},
		"N of 64 bits":                  {joined(uvar.Put(nil, math.MaxUint64), []byte{2}), 5, least, greatest, api.ErrForm},
		"N of 64 bits, the greatest n":  {joined(uvar.Put(nil, math.MaxUint64), []byte{2}), greatest, least, greatest, api.ErrForm},
		"N of 64 bits, the highest one": {joined(uvar.Put(nil, 1<<63), []byte{2}), greatest, least, greatest, api.ErrForm},
		"N as 1, but for a high bit":    {joined(uvar.Put(nil, 1<<32+1), []byte{2}), 1, least, greatest, api.ErrForm},
		"second N of 64 bits":           {joined([]byte{1, 2}, uvar.Put(nil, math.MaxUint64), []byte{4}), 5, least, greatest, api.ErrForm},
		"V of the one ahead":            {[]byte{1, 2, 1, 2}, 2, least, greatest, api.ErrForm},
		"V of the one ahead, 0":         {[]byte{1, 0, 1, 0}, 2, least, greatest, api.ErrForm},
		"V of the one ahead, later":     {[]byte{1, 2, 1, 4, 2, 4}, 4, least, greatest, api.ErrForm},
		"V of the one ahead, the least": {laid(runs.Run{N: 1, V: least}, runs.Run{N: 1, V: least}), 2, least, greatest, api.ErrForm},

		"just below low":                   {[]byte{1, 8}, 1, 5, 9, api.ErrArg},
		"just above high":                  {[]byte{1, 20}, 1, 5, 9, api.ErrArg},
		"second just below low":            {[]byte{1, 10, 1, 8}, 2, 5, 9, api.ErrArg},
		"second just above high":           {[]byte{1, 18, 1, 20}, 2, 5, 9, api.ErrArg},
		"0, not in":                        {[]byte{1, 0}, 1, 1, 9, api.ErrArg},
		"-1, from 0 on":                    {[]byte{1, 1}, 1, 0, 65535, api.ErrArg},
		"65536, up to 65535":               {laid(runs.Run{N: 1, V: 65536}), 1, 0, 65535, api.ErrArg},
		"the least, from one more on":      {laid(runs.Run{N: 1, V: least}), 1, least + 1, greatest, api.ErrArg},
		"the greatest, up to one less":     {laid(runs.Run{N: 1, V: greatest}), 1, least, greatest - 1, api.ErrArg},
		"low over high, between":           {[]byte{1, 14}, 1, 9, 5, api.ErrArg},
		"low over high, at low":            {[]byte{1, 18}, 1, 9, 5, api.ErrArg},
		"low over high, at high":           {[]byte{1, 10}, 1, 9, 5, api.ErrArg},
		"low the greatest, high the least": {[]byte{1, 0}, 1, greatest, least, api.ErrArg},
	} {
		told(t, name, cursor.New(x.b), x.n, x.low, x.high, nil, x.err, 0)
		if x.err == api.ErrShort {
			continue
		}
		for _, behind := range [][]byte{{0}, {1, 2}, {128}, {1, 6, 1, 8, 1, 10}} {
			told(t, name+", bytes behind", cursor.New(joined(x.b, behind)), x.n, x.low, x.high, nil, x.err, 0)
		}
	}
}

func TestTakeTellsNAheadOfV(t *testing.T) { // P4.3, R2
	for name, x := range map[string]struct {
		b   []byte
		n   int
		err api.Errno
	}{
		"N of 0, no V":                     {[]byte{0}, 1, api.ErrForm},
		"N of 0, within V":                 {[]byte{0, 128}, 1, api.ErrForm},
		"N of 0, V too long":               {[]byte{0, 130, 0}, 1, api.ErrForm},
		"N of 0, V above high":             {[]byte{0, 40}, 1, api.ErrForm},
		"N too many, no V":                 {[]byte{2}, 1, api.ErrForm},
		"N too many, within V":             {[]byte{2, 128}, 1, api.ErrForm},
		"N too many, V too long":           {[]byte{2, 130, 0}, 1, api.ErrForm},
		"N too many, V below low":          {[]byte{2, 1}, 1, api.ErrForm},
		"N of 64 bits, V above high":       {joined(uvar.Put(nil, math.MaxUint64), []byte{40}), 1, api.ErrForm},
		"N too long, V above high":         {[]byte{129, 0, 40}, 1, api.ErrLong},
		"second N of 0, no V":              {[]byte{1, 10, 0}, 2, api.ErrForm},
		"second N too many, V above high":  {[]byte{1, 10, 2, 40}, 2, api.ErrForm},
		"V above high, second N of 0":      {[]byte{1, 40, 0, 10}, 2, api.ErrArg},
		"V above high, second N too many":  {[]byte{1, 40, 9, 10}, 2, api.ErrArg},
		"V above high, no second N":        {[]byte{1, 40}, 2, api.ErrArg},
		"V above high, twice":              {[]byte{1, 40, 1, 40}, 2, api.ErrArg},
		"V above high, then below low":     {[]byte{1, 40, 1, 1}, 2, api.ErrArg},
		"V too long, second N of 0":        {[]byte{1, 138, 0, 0, 10}, 2, api.ErrLong},
		"V again, third N too long":        {[]byte{1, 10, 1, 10, 129, 0, 12}, 3, api.ErrForm},
		"V again, third V above high":      {[]byte{1, 10, 1, 10, 1, 40}, 3, api.ErrForm},
		"second V above high, third again": {[]byte{1, 10, 1, 40, 1, 40}, 3, api.ErrArg},
	} {
		told(t, name, cursor.New(x.b), x.n, 5, 9, nil, x.err, 0)
	}
}

func TestTakeOfFewerAndOfMore(t *testing.T) { // P4.3
	b := laid(runs.Run{N: 3, V: 5}, runs.Run{N: 1, V: 6}, runs.Run{N: 2, V: 5})
	for n, want := range map[int]api.Errno{
		1: api.ErrForm, 2: api.ErrForm, 3: api.OK, 4: api.OK, 5: api.ErrForm, 6: api.OK,
		7: api.ErrShort, 8: api.ErrShort, 2000: api.ErrShort, 1 << 40: api.ErrShort, math.MaxInt: api.ErrShort,
	} {
		var row []int
		left := 0
		if want == api.OK {
			row = []int{5, 5, 5, 6, 5, 5}[:n]
			left = map[int]int{3: 4, 4: 2, 6: 0}[n]
		}
		told(t, "a part", cursor.New(b), n, 0, 9, row, want, left)
	}
}

func TestTakeOfAGreatRowThatIsWrong(t *testing.T) { // P4.3, R1, R6: an answer of none needs no memory for the row
	for _, n := range []int{1 << 31, 1 << 40, 1 << 62, math.MaxInt} {
		for name, x := range map[string]struct {
			behind []byte
			err    api.Errno
		}{
			"nothing behind":             {nil, api.ErrShort},
			"N of 0 behind":              {[]byte{0, 6}, api.ErrForm},
			"N of more behind":           {[]byte{2, 6}, api.ErrForm},
			"the greatest N behind":      {laid(runs.Run{N: math.MaxInt, V: 3}), api.ErrForm},
			"the V of the one ahead":     {[]byte{1, 4}, api.ErrForm},
			"a V above high behind":      {[]byte{1, 40}, api.ErrArg},
			"bytes that are wrong":       {[]byte{129, 0, 6}, api.ErrLong},
			"bytes that end within a V":  {[]byte{1, 134}, api.ErrShort},
			"another great N of 64 bits": {joined(uvar.Put(nil, math.MaxUint64), []byte{6}), api.ErrForm},
		} {
			b := joined(laid(runs.Run{N: n - 1, V: 2}), x.behind)
			told(t, name, cursor.New(b), n, 0, 9, nil, x.err, 0)
		}
	}
}

func TestTakeOfAGreatRowEnds(t *testing.T) { // R1: what is beyond the bound is promised nothing but that
	for _, n := range []int{1 << 40, 1 << 62, math.MaxInt} {
		c := cursor.New(laid(runs.Run{N: n - 1, V: 2}, runs.Run{N: 1, V: 3}))
		if row := runs.Take(c, n, 0, 9); len(row) > 0 || c.Err() == api.OK {
			t.Errorf("a row of %d: %d numbers, error %d", n, len(row), c.Err())
		}
	}
}

func TestTakeOfACursorWithAnError(t *testing.T) { // P4.3
	for _, err := range []api.Errno{api.ErrShort, api.ErrMany, api.ErrTable, api.ErrArg, api.ErrForm} {
		for _, n := range []int{math.MinInt, -1, 0, 1, 2, 2000, math.MaxInt} {
			for _, ends := range [][2]int{{math.MinInt, math.MaxInt}, {5, 9}, {9, 5}} {
				c := cursor.New([]byte{1, 12, 1, 14})
				c.Fail(err)
				told(t, "an error already", c, n, ends[0], ends[1], nil, err, 0)
			}
		}
	}
	c := cursor.New([]byte{2, 12, 1, 14})
	told(t, "the first", c, 1, 0, 9, nil, api.ErrForm, 0)
	told(t, "another behind the error", c, 1, 50, 60, nil, api.ErrForm, 0)
}

func TestTakeOfACursorThatNoCallMade(t *testing.T) { // P4.3, R5
	for _, n := range []int{math.MinInt, -1, 0, 1, 2, 2000, math.MaxInt} {
		for _, ends := range [][2]int{{math.MinInt, math.MaxInt}, {5, 9}, {9, 5}} {
			told(t, "nil", nil, n, ends[0], ends[1], nil, api.ErrMade, 0)
			told(t, "a zero one", &cursor.Cursor{}, n, ends[0], ends[1], nil, api.ErrMade, 0)
		}
	}
}

func TestWhatWasPutIsTaken(t *testing.T) { // P4.4
	for _, l := range rows() {
		low, high := 0, 0
		if len(l) > 0 {
			low, high = slices.Min(l), slices.Max(l)
		}
		b := runs.Put(nil, l)
		told(t, "alone", cursor.New(b), len(l), low, high, l, api.OK, 0)
		for _, behind := range [][]byte{{0}, {1, 2}, {255, 255}, b} {
			told(t, "with bytes behind", cursor.New(joined(b, behind)), len(l), low, high, l, api.OK, len(behind))
		}
		for k := 1; k <= len(b); k += 1 + len(b)/50 { // some parts alone of long ones: each takes its time
			told(t, "a part of its bytes", cursor.New(b[:len(b)-k]), len(l), low, high, nil, api.ErrShort, 0)
		}
		sameRow(t, "the row of the runs", runs.Row(runs.Of(l)), l)
		if !runs.Right(runs.Of(l)) {
			t.Errorf("the runs of %v are not right", l)
		}
	}
}

func TestWhatWasPutInARowIsTakenInARow(t *testing.T) { // P4.4
	var b []byte
	for _, l := range rows() {
		b = runs.Put(b, l)
	}
	c := cursor.New(b)
	for _, l := range rows() {
		sameRow(t, "the next one", runs.Take(c, len(l), math.MinInt, math.MaxInt), l)
	}
	if err := c.End(); err != api.OK {
		t.Errorf("behind all rows: %d", err)
	}
}

func TestARowOfMoreThan2000IsTakenAgain(t *testing.T) { // P4.4; its runs' row is cut at 2000, as P4.1 says
	for _, l := range [][]int{times(2001, 3), rising(2001, 0), append(times(2000, 1), times(9000, 2)...)} {
		told(t, "a long one", cursor.New(runs.Put(nil, l)), len(l), 0, 9000, l, api.OK, 0)
		sameRow(t, "its runs' row", runs.Row(runs.Of(l)), l[:most])
		if runs.Right(runs.Of(l)) {
			t.Errorf("runs of %d numbers are right", len(l))
		}
	}
}

func TestRunsThatAreRightAreThoseOfTheirRow(t *testing.T) { // P4.1, P4.4
	for _, r := range anyRuns() {
		row := runs.Row(r)
		same := slices.Equal(runs.Of(row), r)
		if got := runs.Right(r); got != same {
			t.Errorf("Right(%v): %t, but that they are the runs of their row: %t", r, got, same)
		}
	}
}

// taken tells what the chapter says that Take answers, by uvar's own calls: the row, how many bytes it has, and the error.
func taken(b []byte, n, low, high int) ([]int, int, api.Errno) {
	var row []int
	size := 0
	for len(row) < n {
		many, k, err := uvar.Get(b[size:])
		if err != api.OK {
			return nil, 0, err
		}
		if many == 0 || many > uint64(n-len(row)) {
			return nil, 0, api.ErrForm
		}
		size += k
		v, k, err := uvar.GetInt(b[size:])
		if err != api.OK {
			return nil, 0, err
		}
		if len(row) > 0 && row[len(row)-1] == v {
			return nil, 0, api.ErrForm
		}
		if v < low || v > high {
			return nil, 0, api.ErrArg
		}
		size += k
		row = append(row, times(int(many), v)...)
	}
	return row, size, api.OK
}

// takes holds Take of any bytes against the chapter, and against Put.
func takes(t *testing.T, b []byte, n, low, high int) {
	t.Helper()
	row, size, err := taken(b, n, low, high)
	left := len(b) - size
	if err != api.OK {
		left = 0
	}
	told(t, "any bytes", cursor.New(b), n, low, high, row, err, left)
	if err == api.OK && !bytes.Equal(runs.Put(nil, row), b[:size]) {
		t.Errorf("%v is taken of %v, but that is put as %v", row, b[:size], runs.Put(nil, row))
	}
}

func TestTakeOfManyBytes(t *testing.T) { // P4.3, P4.4
	d := dice(6)
	for range 60000 {
		var b []byte
		for range d.roll(12) {
			b = append(b, byte(d.roll(6)))
			if d.roll(12) == 0 {
				b = append(b, byte(d.roll(256)))
			}
		}
		takes(t, b, d.roll(8)-1, d.roll(4)-3, d.roll(4))
	}
}

func FuzzTake(f *testing.F) { // P4.3, P4.4, P1
	f.Add([]byte{2, 14, 1, 18}, int16(3), 0, 9)
	f.Add([]byte{2, 14, 1, 14}, int16(3), 0, 9)
	f.Add([]byte{172, 2, 0}, int16(300), math.MinInt, math.MaxInt)
	f.Add(filled(12, 255), int16(-1), 9, 0)
	f.Fuzz(func(t *testing.T, b []byte, n int16, low, high int) {
		was := slices.Clone(b)
		takes(t, b, int(n), low, high)
		if !bytes.Equal(b, was) {
			t.Fatalf("%v became %v", was, b)
		}
	})
}
