package names_test

import (
	"regexp"
	"slices"
	"strconv"
	"strings"
	"testing"

	"inlay/names"
)

// form is what the chapter says of a name, told once more.
var form = regexp.MustCompile(`^[a-z][a-z0-9_]{0,11}$`)

// dice tells numbers that look like any, the same ones each time.
type dice uint64

func (d *dice) roll(n int) int {
	*d = *d*6364136223846793005 + 1442695040888963407
	return int(*d >> 33 % dice(n))
}

// counted tells the names f and a number, from from on, ahead of to.
func counted(from, to int) []string {
	var l []string
	for n := from; n < to; n++ {
		l = append(l, "f"+strconv.Itoa(n))
	}
	return l
}

// but tells l without its names s.
func but(l []string, s ...string) []string {
	return slices.DeleteFunc(slices.Clone(l), func(name string) bool { return slices.Contains(s, name) })
}

// turned tells l from its end on.
func turned(l []string) []string {
	l = slices.Clone(l)
	slices.Reverse(l)
	return l
}

// doubled tells l, and l once more.
func doubled(l []string) []string {
	return slices.Concat(l, l)
}

func may(t *testing.T, s string, want bool) {
	t.Helper()
	if got := names.May(s); got != want {
		t.Errorf("May(%q): %t", s, got)
	}
}

func TestExample(t *testing.T) {
	if got := names.Fresh([]string{"a"}, "a"); got != "f0" {
		t.Errorf("Fresh: %q", got)
	}
}

func TestMayOfNamedTexts(t *testing.T) { // P5.1
	for s, want := range map[string]bool{
		"":                  false,
		"a":                 true,
		"z":                 true,
		"m":                 true,
		"main":              true,
		"a_1":               true,
		"abcdefghijk":       true,
		"abcdefghijkl":      true,
		"abcdefghijklm":     false,
		"a___________":      true,
		"a0123456789_":      true,
		"a0123456789__":     false,
		"0":                 false,
		"9":                 false,
		"_":                 false,
		"0a":                false,
		"9a":                false,
		"1a":                false,
		"_a":                false,
		"__":                false,
		"A":                 false,
		"Z":                 false,
		"`":                 false,
		"{":                 false,
		"Aa":                false,
		"aA":                false,
		"aZ":                false,
		"a ":                false,
		" a":                false,
		"a b":               false,
		"a-b":               false,
		"a.b":               false,
		"a\n":               false,
		"a\t":               false,
		"\x00":              false,
		"a\x00":             false,
		"\x00a":             false,
		"a\x00b":            false,
		"a\x80":             false,
		"a\xff":             false,
		"\xe1":              false,
		"a\xe1":             false,
		"\u00e4":            false,
		"a\u00e4":           false,
		"\u0431":            false,
		"a\u0431":           false,
		"a\u0161":           false, // its number ends as that of a letter
		"a\u0130":           false, // its number ends as that of a digit
		"\u0161":            false,
		"a\uff11":           false,
		"a\u0661":           false,
		"a\U00010061":       false,
		"abcdef\u00e4":      false,
		"abcdefghijk\u00e4": false, // twelve letters, thirteen bytes
	} {
		may(t, s, want)
	}
}

func TestMayOfEachByte(t *testing.T) { // P5.1
	small := "abcdefghijklmnopqrstuvwxyz"
	later := small + "0123456789_"
	for n := range 256 {
		c := string([]byte{byte(n)})
		first, behind := strings.Contains(small, c), strings.Contains(later, c)
		may(t, c, first)
		for size := 2; size <= 14; size++ {
			rest := strings.Repeat("q", size-1)
			may(t, c+rest, first && size <= 12)
			for at := 1; at < size; at++ {
				may(t, rest[:at]+c+rest[at:], behind && size <= 12)
			}
		}
	}
}

func TestMayOfAllTextsOfTwoBytes(t *testing.T) { // P5.1
	for a := range 256 {
		for b := range 256 {
			s := string([]byte{byte(a), byte(b)})
			may(t, s, form.MatchString(s))
		}
	}
}

func TestMayOfEachLength(t *testing.T) { // P5.1
	for size := range 600 {
		for _, c := range []string{"a", "z", "m"} {
			may(t, strings.Repeat(c, size), size >= 1 && size <= 12)
		}
		for _, c := range []string{"0", "9", "_", "A", " ", "\x00", "\xff"} {
			may(t, strings.Repeat(c, size), false)
		}
	}
	for _, size := range []int{1<<16 + 1, 1<<16 + 12, 1 << 20} {
		may(t, strings.Repeat("a", size), false)
	}
}

// texts tells lists for any length: names of few letters, so that some stand twice, and some that may not be.
func texts(d *dice) []string {
	letters := []string{"f", "a", "0", "1", "_", "f0", "f1", "f2", "f3", "f4", "f10", "f00", "f01", "F0", "", " ", "\u00e4"}
	var l []string
	for range d.roll(24) {
		s := letters[d.roll(len(letters))]
		if d.roll(4) == 0 {
			s += letters[d.roll(len(letters))]
		}
		l = append(l, s)
	}
	return l
}

func TestMayOfManyTexts(t *testing.T) { // P5.1
	d := dice(1)
	for range 3000 {
		for _, s := range texts(&d) {
			may(t, s, form.MatchString(s))
		}
	}
}

func TestUnlikeOfNamedLists(t *testing.T) { // P5.1
	for name, x := range map[string]struct {
		l    []string
		want bool
	}{
		"nil":                              {nil, true},
		"none":                             {[]string{}, true},
		"one":                              {[]string{"a"}, true},
		"the empty one alone":              {[]string{""}, true},
		"one that may not be":              {[]string{"A b"}, true},
		"two":                              {[]string{"a", "b"}, true},
		"two that are the same":            {[]string{"a", "a"}, false},
		"the same beside each other":       {[]string{"a", "b", "b", "c"}, false},
		"the same at the beginning":        {[]string{"a", "a", "b", "c"}, false},
		"the same at the end":              {[]string{"a", "b", "c", "c"}, false},
		"the first and the last":           {[]string{"a", "b", "c", "a"}, false},
		"the second and the last":          {[]string{"a", "b", "c", "b"}, false},
		"three times":                      {[]string{"a", "a", "a"}, false},
		"four times":                       {[]string{"a", "a", "a", "a"}, false},
		"two of them twice":                {[]string{"a", "b", "a", "b"}, false},
		"all of them twice, turned":        {[]string{"a", "b", "b", "a"}, false},
		"the empty one twice":              {[]string{"", ""}, false},
		"the empty one twice, far apart":   {[]string{"", "a", "b", ""}, false},
		"the empty one among others":       {[]string{"a", "", "b"}, true},
		"one that may not be, twice":       {[]string{"A b", "c", "A b"}, false},
		"unlike in the last byte":          {[]string{"abcdefghijkl", "abcdefghijkm"}, true},
		"unlike in the first byte":         {[]string{"abcdefghijkl", "bbcdefghijkl"}, true},
		"unlike in length":                 {[]string{"a", "aa", "aaa"}, true},
		"unlike in length, longest first":  {[]string{"aaa", "aa", "a", ""}, true},
		"unlike behind 12 bytes":           {[]string{"abcdefghijklm", "abcdefghijkln"}, true},
		"unlike in a byte of 0 at the end": {[]string{"a", "a\x00"}, true},
		"unlike in great letters":          {[]string{"a", "A"}, true},
		"unlike in a space":                {[]string{"a", "a ", " a"}, true},
		"unlike in zeros":                  {[]string{"f0", "f00", "f"}, true},
		"unlike in wrong bytes":            {[]string{"\xff", "\xfe", "\ufffd"}, true},
		"the same wrong byte":              {[]string{"\xff", "\xfe", "\xff"}, false},
		"the same text, made in two ways":  {[]string{"ab", strings.Join([]string{"a", "b"}, "")}, false},
	} {
		if got := names.Unlike(x.l); got != x.want {
			t.Errorf("%s: Unlike(%q): %t", name, x.l, got)
		}
	}
}

func TestUnlikeOfLongLists(t *testing.T) { // P5.1
	for _, size := range []int{39, 40, 41, 1000, 200000} {
		l := counted(0, size)
		if !names.Unlike(l) {
			t.Errorf("%d names that are unlike: false", size)
		}
		for _, at := range []int{0, size / 2, size - 1} {
			if names.Unlike(append(slices.Clone(l), l[at])) {
				t.Errorf("%d names, and that at %d once more: true", size, at)
			}
		}
	}
}

// twice tells whether a name stands twice, by holding each against each.
func twice(l []string) bool {
	for i := range l {
		for j := range i {
			if l[i] == l[j] {
				return true
			}
		}
	}
	return false
}

func TestUnlikeOfManyLists(t *testing.T) { // P5.1
	d := dice(2)
	told := map[bool]int{}
	for range 5000 {
		l := texts(&d)
		want := !twice(l)
		if got := names.Unlike(l); got != want {
			t.Errorf("Unlike(%q): %t", l, got)
		}
		told[want]++
	}
	if told[true] < 500 || told[false] < 500 {
		t.Errorf("there are %d that are unlike and %d that are not: too few of either to tell", told[true], told[false])
	}
}

func TestFindOfNamedLists(t *testing.T) { // P5.1
	for name, x := range map[string]struct {
		l    []string
		s    string
		want int
	}{
		"nil":                             {nil, "a", -1},
		"none":                            {[]string{}, "a", -1},
		"the empty name, nil":             {nil, "", -1},
		"the empty name, none":            {[]string{}, "", -1},
		"the one":                         {[]string{"a"}, "a", 0},
		"the first place":                 {[]string{"a", "b", "c"}, "a", 0},
		"a middle place":                  {[]string{"a", "b", "c"}, "b", 1},
		"the last place":                  {[]string{"a", "b", "c"}, "c", 2},
		"not there":                       {[]string{"a", "b", "c"}, "d", -1},
		"the first of two":                {[]string{"a", "b", "c", "b"}, "b", 1},
		"the first of several":            {[]string{"c", "b", "b", "a", "b"}, "b", 1},
		"of all alike":                    {[]string{"a", "a", "a"}, "a", 0},
		"the first and the last":          {[]string{"a", "b", "a"}, "a", 0},
		"the empty name":                  {[]string{"a", "", "b"}, "", 1},
		"the empty name, not there":       {[]string{"a", "b"}, "", -1},
		"the empty name, twice":           {[]string{"a", "", ""}, "", 1},
		"one that may not be":             {[]string{"a", "A b", "c"}, "A b", 1},
		"one that may not be, not there":  {[]string{"a", "b"}, "A b", -1},
		"one that is too long":            {[]string{"abcdefghijkl", "abcdefghijklm"}, "abcdefghijklm", 1},
		"too long, not there":             {[]string{"abcdefghijkl"}, "abcdefghijklm", -1},
		"behind those that may not be":    {[]string{"", "1", "a"}, "a", 2},
		"the beginning of another":        {[]string{"abc", "ab"}, "ab", 1},
		"the beginning of another alone":  {[]string{"abc"}, "ab", -1},
		"longer than another":             {[]string{"ab"}, "abc", -1},
		"in another":                      {[]string{"abc"}, "b", -1},
		"as a great letter":               {[]string{"A", "a"}, "a", 1},
		"as a great letter alone":         {[]string{"A"}, "a", -1},
		"a byte of 0":                     {[]string{"a", "a\x00"}, "a\x00", 1},
		"a wrong byte":                    {[]string{"\xfe", "\ufffd", "\xff"}, "\xff", 2},
		"a letter of more than one byte":  {[]string{"a", "\u00e4"}, "\u00e4", 1},
		"that letter's first byte":        {[]string{"\u00e4"}, "\xc3", -1},
		"a number with a zero ahead":      {[]string{"f00", "f0"}, "f0", 1},
		"the last of more than there may": {counted(0, 1000), "f999", 999},
	} {
		if got := names.Find(x.l, x.s); got != x.want {
			t.Errorf("%s: Find(%q, %q): %d, want %d", name, x.l, x.s, got, x.want)
		}
	}
}

// place tells the first place of s in l, from l's end on.
func place(l []string, s string) int {
	at := -1
	for i := len(l) - 1; i >= 0; i-- {
		if l[i] == s {
			at = i
		}
	}
	return at
}

func TestFindOfManyLists(t *testing.T) { // P5.1
	d := dice(3)
	for range 2000 {
		l := texts(&d)
		for _, s := range append(texts(&d), l...) {
			if got, want := names.Find(l, s), place(l, s); got != want {
				t.Errorf("Find(%q, %q): %d, want %d", l, s, got, want)
			}
		}
	}
}

func TestFreshOfNamedLists(t *testing.T) { // P5.2
	to12 := counted(0, 12)
	for name, x := range map[string]struct {
		l    []string
		s    string
		want string
	}{
		"nil":                                 {nil, "a", "a"},
		"none":                                {[]string{}, "a", "a"},
		"it may be, and is not there":         {[]string{"b", "c"}, "a", "a"},
		"of 12 bytes":                         {[]string{"b"}, "abcdefghijkl", "abcdefghijkl"},
		"f0, not there":                       {[]string{"a"}, "f0", "f0"},
		"f7, not there, nor f0":               {[]string{"a"}, "f7", "f7"},
		"f7, f0 there":                        {[]string{"f0"}, "f7", "f7"},
		"f00, not there":                      {[]string{"f0"}, "f00", "f00"},
		"the beginning of one there":          {[]string{"abc"}, "ab", "ab"},
		"longer than one there":               {[]string{"ab"}, "abc", "abc"},
		"not there, others twice":             {[]string{"b", "b"}, "a", "a"},
		"not there, one that may not be":      {[]string{"", "A"}, "a", "a"},
		"there":                               {[]string{"a"}, "a", "f0"},
		"there, last":                         {[]string{"b", "c", "a"}, "a", "f0"},
		"there twice":                         {[]string{"a", "b", "a"}, "a", "f0"},
		"there, and f0":                       {[]string{"a", "f0"}, "a", "f1"},
		"f0 there":                            {[]string{"f0"}, "f0", "f1"},
		"f0 there twice":                      {[]string{"f0", "f0"}, "f0", "f1"},
		"f0 there three times, f1 twice":      {[]string{"f0", "f1", "f0", "f1", "f0"}, "f0", "f2"},
		"f1 there, f0 not":                    {[]string{"f1"}, "f1", "f0"},
		"f1 there twice, and f0":              {[]string{"f1", "f0", "f1"}, "f1", "f2"},
		"f2 there, f0 and f1 too":             {[]string{"f2", "f1", "f0"}, "f2", "f3"},
		"empty, nil":                          {nil, "", "f0"},
		"empty":                               {[]string{"a"}, "", "f0"},
		"too long":                            {[]string{"a"}, "abcdefghijklm", "f0"},
		"too long, its beginning there":       {[]string{"abcdefghijkl"}, "abcdefghijklm", "f0"},
		"a wrong byte":                        {[]string{"a"}, "a b", "f0"},
		"a digit first":                       {[]string{"a"}, "0a", "f0"},
		"_ first":                             {[]string{"a"}, "_a", "f0"},
		"a great letter":                      {[]string{"a"}, "A", "f0"},
		"F0":                                  {[]string{"a"}, "F0", "f0"},
		"a letter of more than one byte":      {[]string{"a"}, "\u00e4", "f0"},
		"may not be, f0 there":                {[]string{"f0"}, "", "f1"},
		"empty and there":                     {[]string{""}, "", "f0"},
		"empty and there, f0 too":             {[]string{"", "f0"}, "", "f1"},
		"too long and there":                  {[]string{"abcdefghijklm"}, "abcdefghijklm", "f0"},
		"a wrong byte, and there":             {[]string{"f0", "A b", "f1"}, "A b", "f2"},
		"f0 to f9":                            {counted(0, 10), "f0", "f10"},
		"f0 to f9, turned":                    {turned(counted(0, 10)), "f0", "f10"},
		"f0 to f11":                           {to12, "f5", "f12"},
		"f0 to f11, twice":                    {doubled(to12), "f5", "f12"},
		"f0 to f11, for one that may not be":  {to12, "F", "f12"},
		"f0 to f11, another asked":            {to12, "f12", "f12"},
		"f0 to f99":                           {counted(0, 100), "f0", "f100"},
		"f0 to f999":                          {turned(counted(0, 1000)), "f0", "f1000"},
		"a gap at f0":                         {counted(1, 9), "f1", "f0"},
		"a gap at f1":                         {but(to12, "f1"), "f2", "f1"},
		"gaps at f3 and f7":                   {but(to12, "f3", "f7"), "f0", "f3"},
		"gaps at f3 and f7, turned":           {turned(but(to12, "f3", "f7")), "f0", "f3"},
		"gaps, doubled":                       {doubled(but(to12, "f3", "f7")), "f0", "f3"},
		"a gap at f10":                        {but(counted(0, 30), "f10"), "f9", "f10"},
		"a gap at f9, f10 there":              {but(to12, "f9"), "f10", "f9"},
		"the gap itself asked":                {but(to12, "f3", "f7"), "f7", "f7"},
		"f00 alone":                           {[]string{"f00"}, "f00", "f0"},
		"f01 alone":                           {[]string{"f01"}, "f01", "f0"},
		"f0 and f00":                          {[]string{"f0", "f00"}, "f0", "f1"},
		"f0 and f01":                          {[]string{"f0", "f01"}, "f0", "f1"},
		"f, f_, f0_, f_0":                     {[]string{"f", "f_", "f0_", "f_0"}, "f", "f0"},
		"F0, \" f0\", \"f0 \", f0 with a 0":   {[]string{"F0", " f0", "f0 ", "f0\x00"}, "", "f0"},
		"f-1, f+0":                            {[]string{"f-1", "f+0"}, "f-1", "f0"},
		"another letter's numbers":            {[]string{"g0", "g1", "g0"}, "g0", "f0"},
		"a name twice, that asked not there":  {[]string{"b", "b", "f0"}, "", "f1"},
		"f0 twice, f1 not there":              {[]string{"f0", "f0", "f2"}, "f2", "f1"},
		"the greatest number of 64 bits asks": {[]string{"f18446744073709551615"}, "f18446744073709551615", "f0"},
	} {
		if got := names.Fresh(x.l, x.s); got != x.want {
			t.Errorf("%s: Fresh(%q, %q): %q, want %q", name, x.l, x.s, got, x.want)
		}
	}
}

func TestFreshOfLongLists(t *testing.T) { // P5.2
	l := counted(0, 200000)
	for s, want := range map[string]string{"f0": "f200000", "f199999": "f200000", "": "f200000", "f200001": "f200001", "a": "a"} {
		if got := names.Fresh(l, s); got != want {
			t.Errorf("Fresh of f0 to f199999, %q: %q, want %q", s, got, want)
		}
		if got := names.Fresh(doubled(turned(l)), s); got != want {
			t.Errorf("Fresh of the same, twice and turned, %q: %q, want %q", s, got, want)
		}
	}
}

// fresh tells what the chapter says that Fresh tells, by asking the list itself each time.
func fresh(l []string, s string) string {
	if form.MatchString(s) && !slices.Contains(l, s) {
		return s
	}
	for n := 0; ; n++ {
		if name := counted(n, n+1)[0]; !slices.Contains(l, name) {
			return name
		}
	}
}

func TestFreshOfManyLists(t *testing.T) { // P5.2
	d := dice(4)
	told := map[string]int{}
	for range 3000 {
		l := texts(&d)
		for _, s := range append(texts(&d), l...) {
			got, want := names.Fresh(l, s), fresh(l, s)
			if got != want {
				t.Errorf("Fresh(%q, %q): %q, want %q", l, s, got, want)
			}
			if !names.May(got) || names.Find(l, got) != -1 {
				t.Errorf("Fresh(%q, %q): %q may not be, or is there", l, s, got)
			}
			told[want]++
		}
	}
	for _, s := range []string{"f0", "f1", "f2", "f3"} {
		if told[s] < 50 {
			t.Errorf("%s is told %d times: too few to tell", s, told[s])
		}
	}
}

func TestFreshAgainAndAgain(t *testing.T) { // P5.2
	for _, s := range []string{"", "a", "f0", "f5", "f00", "A"} {
		var l []string
		for range 60 {
			name := names.Fresh(l, s)
			if want := fresh(l, s); name != want {
				t.Errorf("Fresh(%q, %q): %q, want %q", l, s, name, want)
			}
			l = append(l, name)
		}
		if !names.Unlike(l) {
			t.Errorf("of %q one name is told twice: %q", s, l)
		}
	}
}

func TestNothingHandedInIsChanged(t *testing.T) { // R3
	d := dice(5)
	for range 500 {
		whole := append(texts(&d), "f0", "a", "behind", "f1", "f1")
		was := slices.Clone(whole)
		for size := 0; size <= len(whole); size++ {
			l := whole[:size] // with room behind its end
			for _, s := range []string{"", "a", "f0", "f1", "A"} {
				names.Unlike(l)
				names.Find(l, s)
				names.Fresh(l, s)
			}
			if !slices.Equal(whole, was) {
				t.Fatalf("%q became %q", was, whole)
			}
		}
	}
}

func TestRoomBehindTheEndCountsForNothing(t *testing.T) { // R3
	l := []string{"a", "b", "a", "f0"}[:2]
	if !names.Unlike(l) || names.Find(l, "f0") != -1 || names.Fresh(l, "a") != "f0" || names.Fresh(l, "f0") != "f0" {
		t.Errorf("Unlike %t, Find %d, Fresh %q and %q", names.Unlike(l), names.Find(l, "f0"), names.Fresh(l, "a"), names.Fresh(l, "f0"))
	}
}

func TestNothingIsKept(t *testing.T) { // R3, R4: what was asked ahead, or is changed behind a call, counts for nothing
	l := []string{"a", "f0"}
	first := names.Fresh(l, "a")
	l[0], l[1] = "c", "c"
	second := names.Fresh(l, "a")
	if first != "f1" || second != "a" || names.Unlike(l) || names.Find(l, "a") != -1 {
		t.Errorf("Fresh %q, then %q; Unlike %t, Find %d", first, second, names.Unlike(l), names.Find(l, "a"))
	}
	if got := names.Fresh(nil, ""); got != "f0" {
		t.Errorf("Fresh of no names, behind others: %q", got)
	}
}

func TestCallsTellTheSameEachTime(t *testing.T) { // R4
	d := dice(6)
	for range 100 {
		l := texts(&d)
		s := append(l, "f0")[0]
		unlike, at, name := names.Unlike(l), names.Find(l, s), names.Fresh(l, s)
		for range 30 {
			if names.Unlike(l) != unlike || names.Find(l, s) != at || names.Fresh(l, s) != name {
				t.Fatalf("of %q and %q two calls tell otherwise", l, s)
			}
		}
		if got := turned(l); names.Unlike(got) != unlike || names.Fresh(got, s) != name {
			t.Errorf("of %q turned, and %q, Unlike or Fresh tells otherwise", l, s)
		}
	}
}

func FuzzNames(f *testing.F) { // P5.1, P5.2, P1
	f.Add("a,b,a", "a")
	f.Add("f0,f1,f1,f3", "f3")
	f.Add("", "")
	f.Add("f00,\xff,\u00e4", "abcdefghijklm")
	f.Fuzz(func(t *testing.T, list, s string) {
		l := strings.Split(list, ",")
		was := slices.Clone(l)
		may(t, s, form.MatchString(s))
		if got := names.Unlike(l); got == twice(l) {
			t.Errorf("Unlike(%q): %t", l, got)
		}
		if got, want := names.Find(l, s), place(l, s); got != want {
			t.Errorf("Find(%q, %q): %d, want %d", l, s, got, want)
		}
		if got, want := names.Fresh(l, s), fresh(l, s); got != want {
			t.Errorf("Fresh(%q, %q): %q, want %q", l, s, got, want)
		}
		if !slices.Equal(l, was) {
			t.Errorf("%q became %q", was, l)
		}
	})
}
