package ops_test

import (
	"math"
	"slices"
	"strings"
	"testing"

	"inlay/api"
	"inlay/ops"
)

const (
	least    = math.MinInt64
	greatest = math.MaxInt64
)

// dice tells numbers that look like any, the same ones each time.
type dice uint64

func (d *dice) roll(n int) int {
	*d = *d*6364136223846793005 + 1442695040888963407
	return int(*d >> 33 % dice(n))
}

// number tells one of either sign, and of any greatness.
func (d *dice) number() int {
	n := d.roll(1<<30)<<34 ^ d.roll(1<<30)<<10 ^ d.roll(1<<30)
	return n >> d.roll(64)
}

// called is an instruction, and what the chapter calls it.
type called struct {
	op   api.Op
	name string
}

// all tells each instruction in order, told once more.
func all() []called {
	return []called{
		{api.Nop, "nop"}, {api.Push, "push"}, {api.Load, "load"}, {api.Store, "store"}, {api.Pop, "pop"}, {api.Dup, "dup"},
		{api.Add, "add"}, {api.Sub, "sub"}, {api.Mul, "mul"}, {api.Div, "div"}, {api.Mod, "mod"},
		{api.Neg, "neg"}, {api.Less, "less"}, {api.Same, "same"}, {api.Not, "not"},
		{api.Pair, "pair"}, {api.Plus, "plus"}, {api.Minus, "minus"}, {api.Times, "times"}, {api.Real, "real"}, {api.Imag, "imag"},
		{api.Jump, "jump"}, {api.If, "if"}, {api.Call, "call"}, {api.Defer, "defer"}, {api.Ret, "ret"},
		{api.Panic, "panic"}, {api.Recover, "recover"}, {api.GetRes, "getres"}, {api.SetRes, "setres"},
		{api.Emit, "emit"}, {api.Trace, "trace"}, {api.Draw, "draw"}, {api.Open, "open"}, {api.Close, "close"},
	}
}

// names tells what the instructions are called, in order.
func names() []string {
	var l []string
	for _, x := range all() {
		l = append(l, x.name)
	}
	return l
}

// none tells numbers that are no instruction's: both ends, those beside the instructions, and some that end in an instruction's bits.
func none() []api.Op {
	l := []api.Op{
		api.Ops, api.Ops + 1, api.Ops + 2, 63, 64, 70, 100, 127, 128, 255, 256, 1000, 1 << 20, math.MaxInt32, math.MaxInt32 + 1, greatest - 1, greatest,
		-1, -2, -5, -34, -35, -36, -64, -128, -256, math.MinInt32, math.MinInt32 - 1, least + 1, least,
	}
	for _, x := range all() {
		l = append(l, ^x.op, x.op+api.Ops, x.op-api.Ops, x.op+least)
		for _, k := range []int{6, 7, 8, 16, 31, 32, 62} {
			l = append(l, x.op+1<<k, x.op-1<<k)
		}
	}
	for n := api.Ops; n < 3000; n++ {
		l = append(l, n, -n)
	}
	return l
}

// answer is all that the calls tell of a number.
type answer struct {
	name         string
	operand      int
	fixed        bool
	takes, gives []api.Type
	ends, raises bool
}

func asked(op api.Op) answer {
	return answer{ops.Name(op), ops.Operand(op), ops.Fixed(op), ops.Takes(op), ops.Gives(op), ops.Ends(op), ops.Raises(op)}
}

// list makes types of letters: i of an Int, c of a Cx.
func list(letters string) []api.Type {
	var l []api.Type
	for _, c := range []byte(letters) {
		l = append(l, map[byte]api.Type{'i': 1, 'c': 2}[c])
	}
	return l
}

// said tells what the chapter says of an instruction by its name.
func said(name string) answer {
	a := answer{name: name, operand: 0, fixed: true}
	switch name {
	case "push":
		a.operand = 1
	case "load", "store":
		a.operand = 2
	case "jump", "if":
		a.operand = 3
	case "call", "defer":
		a.operand = 4
	case "getres", "setres":
		a.operand = 5
	case "open", "close":
		a.operand = 6
	}
	switch name {
	case "load", "store", "pop", "dup", "call", "defer", "getres", "setres":
		a.fixed = false
	case "push", "draw":
		a.gives = list("i")
	case "add", "sub", "mul", "div", "mod", "less", "same":
		a.takes, a.gives = list("ii"), list("i")
	case "neg", "not":
		a.takes, a.gives = list("i"), list("i")
	case "pair":
		a.takes, a.gives = list("ii"), list("c")
	case "plus", "minus", "times":
		a.takes, a.gives = list("cc"), list("c")
	case "real", "imag":
		a.takes, a.gives = list("c"), list("i")
	case "if", "panic", "emit":
		a.takes = list("i")
	case "recover":
		a.gives = list("ii")
	}
	a.ends = slices.Contains([]string{"jump", "ret", "panic", "close"}, name)
	a.raises = slices.Contains([]string{"div", "mod", "call", "ret", "panic", "open", "close"}, name)
	return a
}

// alike holds one answer against another; a list that is nil and an empty one are the same.
func alike(a, b answer) bool {
	return a.name == b.name && a.operand == b.operand && a.fixed == b.fixed &&
		slices.Equal(a.takes, b.takes) && slices.Equal(a.gives, b.gives) && a.ends == b.ends && a.raises == b.raises
}

// find holds what Find tells against an instruction, and true.
func find(t *testing.T, name string, want api.Op) {
	t.Helper()
	if got, ok := ops.Find(name); got != want || !ok {
		t.Errorf("Find(%q): %d, %t, want %d, true", name, got, ok, want)
	}
}

// findsNone holds what Find tells against 0, and false.
func findsNone(t *testing.T, name string) {
	t.Helper()
	if got, ok := ops.Find(name); got != 0 || ok {
		if len(name) > 100 {
			name = name[:100] + ".."
		}
		t.Errorf("Find(%q): %d, %t, want 0, false", name, got, ok)
	}
}

// finds holds what Find tells against the instruction that is called so, if one is, and else against nothing.
func finds(t *testing.T, name string) {
	t.Helper()
	if n := slices.Index(names(), name); n >= 0 {
		find(t, name, api.Op(n))
	} else {
		findsNone(t, name)
	}
}

func TestExamples(t *testing.T) {
	if got := ops.Name(api.Ret); got != "ret" {
		t.Errorf("Name(Ret): %q", got)
	}
	if got := ops.Operand(api.If); got != ops.Place {
		t.Errorf("Operand(If): %d", got)
	}
}

func TestEachInstructionIsAsked(t *testing.T) { // that these tests leave none out
	for i, x := range all() {
		if x.op != api.Op(i) {
			t.Fatalf("instruction %d stands where %d should", x.op, i)
		}
	}
	if n := len(all()); n != 35 || api.Ops != 35 {
		t.Errorf("%d instructions of %d, want 35", n, api.Ops)
	}
	for _, op := range none() {
		if op >= 0 && op < 35 {
			t.Errorf("%d is an instruction", op)
		}
	}
}

func TestConstants(t *testing.T) { // the chapter's functions
	got := []int{ops.None, ops.Number, ops.Slot, ops.Place, ops.Function, ops.Result, ops.NodeOf}
	if want := []int{0, 1, 2, 3, 4, 5, 6}; !slices.Equal(got, want) {
		t.Errorf("the constants: %v, want %v", got, want)
	}
}

func TestNameOfEach(t *testing.T) { // P9.1
	for _, x := range all() {
		if got := ops.Name(x.op); got != x.name {
			t.Errorf("Name(%d): %q, want %q", x.op, got, x.name)
		}
	}
	if got := ops.Name(0); got != "nop" {
		t.Errorf("Name of the first one: %q", got)
	}
	if got := ops.Name(34); got != "close" {
		t.Errorf("Name of the last one: %q", got)
	}
}

func TestNamesAreAsTheDocumentListsThem(t *testing.T) { // P9.1
	var l []string
	for op := range api.Ops {
		l = append(l, ops.Name(op))
	}
	want := "nop, push, load, store, pop, dup, add, sub, mul, div, mod, neg, less, same, not, pair, plus, minus, times, real, imag, jump, if, call, defer, ret, panic, recover, getres, setres, emit, trace, draw, open, close"
	if got := strings.Join(l, ", "); got != want {
		t.Errorf("the names: %s, want %s", got, want)
	}
}

func TestNameOfNone(t *testing.T) { // P9.1, R7
	for _, op := range none() {
		if got := ops.Name(op); got != "" {
			t.Errorf("Name(%d): %q, want nothing", op, got)
		}
	}
}

func TestFindOfEach(t *testing.T) { // P9.1
	for _, x := range all() {
		find(t, x.name, x.op)
		find(t, string([]byte(x.name)), x.op)                // in other memory
		find(t, ("<" + x.name + ">")[1:len(x.name)+1], x.op) // within a longer text
	}
	find(t, "nop", 0)
	find(t, "close", 34)
}

func TestFindOfName(t *testing.T) { // P9.1
	for op := range api.Ops {
		find(t, ops.Name(op), op)
	}
	for _, op := range none() {
		findsNone(t, ops.Name(op))
	}
}

func TestFindOfTheEmptyText(t *testing.T) { // P9.1, R7
	findsNone(t, "")
}

func TestFindOfNamesWithALetterMore(t *testing.T) { // P9.1
	for _, name := range names() {
		for at := range len(name) + 1 {
			for c := range 256 {
				finds(t, name[:at]+string([]byte{byte(c)})+name[at:])
			}
		}
	}
	findsNone(t, "nope")
	findsNone(t, "closed")
	findsNone(t, "iff")
	findsNone(t, "calls")
	findsNone(t, "reads")
}

func TestFindOfNamesWithALetterFewer(t *testing.T) { // P9.1
	for _, name := range names() {
		for at := range len(name) {
			finds(t, name[:at]+name[at+1:])
		}
	}
	findsNone(t, "no")
	findsNone(t, "op")
	findsNone(t, "clos")
	findsNone(t, "lose")
	findsNone(t, "i")
	findsNone(t, "f")
}

func TestFindOfNamesWithAnotherLetter(t *testing.T) { // P9.1
	for _, name := range names() {
		for at := range len(name) {
			for c := range 256 {
				finds(t, name[:at]+string([]byte{byte(c)})+name[at+1:])
			}
		}
	}
}

func TestFindOfNamesWithTurnedLetters(t *testing.T) { // P9.1
	for _, name := range names() {
		b := []byte(name)
		slices.Reverse(b)
		finds(t, string(b))
		for at := 1; at < len(name); at++ {
			finds(t, name[:at-1]+name[at:at+1]+name[at-1:at]+name[at+1:])
			finds(t, name[at:]+name[:at])
		}
	}
}

func TestFindOfCapitals(t *testing.T) { // P9.1
	for _, name := range names() {
		findsNone(t, strings.ToUpper(name))
		for at := range len(name) {
			findsNone(t, name[:at]+strings.ToUpper(name[at:at+1])+name[at+1:])
			findsNone(t, name[:at]+strings.ToUpper(name[at:]))
		}
	}
}

func TestFindOfNamesWithBlanks(t *testing.T) { // P9.1
	for _, blank := range []string{" ", "  ", "\t", "\n", "\r\n", "\v", "\x00", "\u00a0", "\u2003", "\ufeff"} {
		findsNone(t, blank)
		for _, name := range names() {
			findsNone(t, blank+name)
			findsNone(t, name+blank)
			findsNone(t, blank+name+blank)
			for at := 1; at < len(name); at++ {
				findsNone(t, name[:at]+blank+name[at:])
			}
		}
	}
}

func TestFindOfTwoNames(t *testing.T) { // P9.1
	for _, a := range names() {
		for _, b := range names() {
			for _, between := range []string{"", ",", " ", ", ", "\n", "\x00"} {
				findsNone(t, a+between+b)
			}
		}
	}
}

// listed tells the names in the document's order, laid out in some ways in which a text might keep them.
func listed() []string {
	return []string{
		strings.Join(names(), ","), strings.Join(names(), ", "), strings.Join(names(), " "), strings.Join(names(), ""), strings.Join(names(), "\n"),
		"," + strings.Join(names(), ",") + ",", " " + strings.Join(names(), " ") + " ",
	}
}

func TestFindOfPartsOfTheList(t *testing.T) { // P9.1: of a name, of two beside each other, with commas and without, and the whole
	for _, s := range listed() {
		for from := range len(s) {
			for to := from; to <= min(from+24, len(s)); to++ {
				finds(t, s[from:to])
			}
			finds(t, s[from:])
			finds(t, s[:from])
		}
		findsNone(t, s)
	}
}

func TestFindOfNamesWithCommas(t *testing.T) { // P9.1
	findsNone(t, ",")
	findsNone(t, ",,")
	for _, name := range names() {
		for _, mark := range []string{",", ", ", ";", ":", "|", ".", "/", "=", "0", "1"} {
			findsNone(t, name+mark)
			findsNone(t, mark+name)
			findsNone(t, mark+name+mark)
		}
	}
}

func TestFindOfLongTexts(t *testing.T) { // P9.1
	for _, name := range names() {
		for _, n := range []int{2, 3, 10, 255, 256, 1000} {
			findsNone(t, strings.Repeat(name, n))
			findsNone(t, strings.Repeat(name+",", n))
			findsNone(t, name+strings.Repeat("x", n))
			findsNone(t, strings.Repeat("x", n)+name)
			findsNone(t, name+strings.Repeat("\x00", n))
			findsNone(t, name+strings.Repeat(" ", n))
		}
	}
	for _, c := range []string{"a", ",", "p", " ", "\x00", "\xff", "\u00e4"} {
		findsNone(t, strings.Repeat(c, 1<<16))
		findsNone(t, strings.Repeat(c, 1<<20))
	}
	findsNone(t, strings.Join(slices.Repeat(names(), 200), ","))
}

func TestFindOfTextsThatAreNoUTF8(t *testing.T) { // P9.1
	for _, wrong := range []string{"\x80", "\xff", "\xc3", "\xc0\x80", "\xed\xa0\x80", "\xf8", "\xe2\x82", "\xc1\xae"} {
		findsNone(t, wrong)
		for _, name := range names() {
			for at := range len(name) + 1 {
				findsNone(t, name[:at]+wrong+name[at:])
			}
			for at := range len(name) {
				findsNone(t, name[:at]+wrong+name[at+1:])
				findsNone(t, name[:at]+string([]byte{name[at] | 0x80})+name[at+1:])
				findsNone(t, name[:at]+string([]byte{0xc0 | name[at]>>6, 0x80 | name[at]&0x3f})+name[at+1:]) // the letter in too many bytes
			}
		}
	}
}

func TestFindOfLettersBeyondASCII(t *testing.T) { // P9.1
	for _, name := range names() {
		for at := range len(name) {
			for _, c := range []rune{0xe4, 0x131, 0x17f, 0x430, 0x435, 0x43e, 0x440, 0x441, 0x212a, 0xfffd, 0xff2c,
				rune(name[at]) + 0x100, rune(name[at]) + 0x10000, rune(name[at]) + 0xfee0} { // its bits, and its wide form
				findsNone(t, name[:at]+string(c)+name[at+1:])
				findsNone(t, name[:at]+string(c)+name[at:])
			}
		}
		findsNone(t, name+"\u0301")
		findsNone(t, name+"\u200b")
		findsNone(t, "\ufeff"+name)
	}
}

func TestFindOfAllTextsOfTwoBytes(t *testing.T) { // P9.1: if is the one name among them
	for a := range 256 {
		finds(t, string([]byte{byte(a)}))
		for b := range 256 {
			finds(t, string([]byte{byte(a), byte(b)}))
		}
	}
}

func TestFindOfAllTextsOfThreeAndFourLetters(t *testing.T) { // P9.1
	found := 0
	letters := "abcdefghijklmnopqrstuvwxyz,"
	for _, a := range letters {
		for _, b := range letters {
			for _, c := range letters {
				three := string([]rune{a, b, c})
				if _, ok := ops.Find(three); ok {
					found++
					finds(t, three)
				}
				for _, d := range letters {
					if _, ok := ops.Find(three + string(d)); ok {
						found++
						finds(t, three+string(d))
					}
				}
			}
		}
	}
	want := 0
	for _, name := range names() {
		if len(name) == 3 || len(name) == 4 {
			want++
		}
	}
	if found != want {
		t.Errorf("of the texts of three and of four letters %d are found, want %d", found, want)
	}
}

func TestFindOfManyTexts(t *testing.T) { // P9.1
	d := dice(1)
	parts := append(names(), ",", " ", "", "a", "e", "s", "\xff", "\u00e4", "N")
	for range 20000 {
		s := ""
		for range d.roll(4) {
			p := parts[d.roll(len(parts))]
			from := d.roll(len(p) + 1)
			if d.roll(2) == 0 {
				s += p
			} else {
				s += p[from:][:d.roll(len(p)-from+1)]
			}
		}
		finds(t, s)
	}
}

func TestOperandOfEach(t *testing.T) { // P9.2
	groups := [][]api.Op{
		1: {api.Push},
		2: {api.Load, api.Store},
		3: {api.Jump, api.If},
		4: {api.Call, api.Defer},
		5: {api.GetRes, api.SetRes},
		6: {api.Open, api.Close},
	}
	for op := range api.Ops {
		want := 0
		for kind, l := range groups {
			if slices.Contains(l, op) {
				want = kind
			}
		}
		if got := ops.Operand(op); got != want {
			t.Errorf("Operand(%d): %d, want %d", op, got, want)
		}
	}
}

func TestOperandOfNone(t *testing.T) { // P9.2
	for _, op := range none() {
		if got := ops.Operand(op); got != ops.None {
			t.Errorf("Operand(%d): %d, want None", op, got)
		}
	}
}

// loose tells the instructions that do not always take, and give, the same.
func loose() []api.Op {
	return []api.Op{api.Load, api.Store, api.Pop, api.Dup, api.Call, api.Defer, api.GetRes, api.SetRes}
}

func TestFixedOfEach(t *testing.T) { // P9.3
	for op := range api.Ops {
		if got, want := ops.Fixed(op), !slices.Contains(loose(), op); got != want {
			t.Errorf("Fixed(%d): %t, want %t", op, got, want)
		}
	}
}

func TestFixedOfNone(t *testing.T) { // P9.3
	for _, op := range none() {
		if ops.Fixed(op) {
			t.Errorf("Fixed(%d)", op)
		}
	}
}

// moves holds what instructions take and give against lists.
func moves(t *testing.T, takes, gives []api.Type, l ...api.Op) {
	t.Helper()
	for _, op := range l {
		if got := ops.Takes(op); !slices.Equal(got, takes) {
			t.Errorf("Takes(%d): %v, want %v", op, got, takes)
		}
		if got := ops.Gives(op); !slices.Equal(got, gives) {
			t.Errorf("Gives(%d): %v, want %v", op, got, gives)
		}
	}
}

func TestTakesAndGivesOfEachThatIsFixed(t *testing.T) { // P9.3
	none, one, two := []api.Type{}, []api.Type{api.Int}, []api.Type{api.Int, api.Int}
	point, points := []api.Type{api.Cx}, []api.Type{api.Cx, api.Cx}
	moves(t, none, one, api.Push, api.Draw)
	moves(t, two, one, api.Add, api.Sub, api.Mul, api.Div, api.Mod, api.Less, api.Same)
	moves(t, one, one, api.Neg, api.Not)
	moves(t, two, point, api.Pair)
	moves(t, points, point, api.Plus, api.Minus, api.Times)
	moves(t, point, one, api.Real, api.Imag)
	moves(t, one, none, api.If, api.Panic, api.Emit)
	moves(t, none, two, api.Recover)
	moves(t, none, none, api.Nop, api.Jump, api.Ret, api.Trace, api.Open, api.Close)
}

func TestTakesAndGivesOfEachThatIsNotFixed(t *testing.T) { // P9.3
	moves(t, nil, nil, loose()...)
}

func TestTakesAndGivesOfNone(t *testing.T) { // P9.3
	moves(t, nil, nil, none()...)
}

func TestEndsAndRaisesOfEach(t *testing.T) { // P9.4
	ends := []api.Op{api.Jump, api.Ret, api.Panic, api.Close}
	raises := []api.Op{api.Div, api.Mod, api.Call, api.Ret, api.Panic, api.Open, api.Close}
	for op := range api.Ops {
		if got, want := ops.Ends(op), slices.Contains(ends, op); got != want {
			t.Errorf("Ends(%d): %t, want %t", op, got, want)
		}
		if got, want := ops.Raises(op), slices.Contains(raises, op); got != want {
			t.Errorf("Raises(%d): %t, want %t", op, got, want)
		}
	}
}

func TestEndsAndRaisesOfNone(t *testing.T) { // P9.4
	for _, op := range none() {
		if ops.Ends(op) {
			t.Errorf("Ends(%d)", op)
		}
		if ops.Raises(op) {
			t.Errorf("Raises(%d)", op)
		}
	}
}

func TestAllOfEach(t *testing.T) { // P9.1 to P9.4, by the names
	for _, x := range all() {
		if got, want := asked(x.op), said(x.name); !alike(got, want) {
			t.Errorf("of %d: %v, want %v", x.op, got, want)
		}
	}
}

func TestAllOfManyNumbers(t *testing.T) { // P9.1 to P9.4, P1
	d := dice(2)
	for range 20000 {
		op := api.Op(d.number())
		want := answer{}
		if op >= 0 && op < 35 {
			want = said(all()[op].name)
		}
		if got := asked(op); !alike(got, want) {
			t.Errorf("of %d: %v, want %v", op, got, want)
		}
	}
}

// spoil overwrites a list, and the room behind its end.
func spoil(l []api.Type) {
	l = l[:cap(l)]
	for i := range l {
		l[i] = 99
	}
	_ = append(l[:0], 98, 97)
}

func TestListsAreNewMemory(t *testing.T) { // R3, P9.3
	for _, x := range all() {
		want := said(x.name)
		held := asked(x.op)
		for _, other := range all() {
			spoil(ops.Takes(other.op))
			spoil(ops.Gives(other.op))
		}
		if !alike(held, want) {
			t.Errorf("lists of other calls were changed, and with them those of %s: %v", x.name, held)
		}
		spoil(held.takes)
		if !slices.Equal(held.gives, want.gives) {
			t.Errorf("what %s takes was changed, and with it what it gives: %v", x.name, held.gives)
		}
		spoil(held.gives)
		if got := asked(x.op); !alike(got, want) {
			t.Errorf("lists of %s were changed, and with them later ones: %v", x.name, got)
		}
	}
}

func TestCallsTellTheSameEachTime(t *testing.T) { // R4
	numbers := none()
	for _, x := range all() {
		numbers = append(numbers, x.op)
	}
	texts := append(names(), "", "no", "nope", "nop,push", "NOP", "\xff", ",")
	var first []answer
	for round := range 3 {
		for i, op := range numbers {
			got := asked(op)
			if round == 0 {
				first = append(first, got)
			}
			if !alike(got, first[i]) {
				t.Fatalf("of %d two calls tell otherwise", op)
			}
		}
		for _, s := range texts {
			finds(t, s)
		}
	}
}

func TestCallsAtTheSameTime(t *testing.T) { // R4: nothing is kept from call to call
	told := make(chan bool)
	for range 4 {
		go func() {
			right := true
			for range 50 {
				for _, x := range all() {
					got, ok := ops.Find(x.name)
					right = right && ok && got == x.op && alike(asked(x.op), said(x.name))
				}
			}
			told <- right
		}()
	}
	for range 4 {
		if !<-told {
			t.Error("calls at the same time tell otherwise")
		}
	}
}

func FuzzOps(f *testing.F) { // P9.1 to P9.4, P1
	f.Add(0, "nop")
	f.Add(34, "close")
	f.Add(35, "")
	f.Add(-1, "nop,push")
	f.Add(least, "\xff")
	f.Add(greatest, "\u00e4")
	f.Fuzz(func(t *testing.T, n int, s string) {
		for _, op := range []api.Op{api.Op(n), api.Op(uint(n) % uint(api.Ops))} {
			want := answer{}
			if op >= 0 && op < 35 {
				want = said(all()[op].name)
			}
			if got := asked(op); !alike(got, want) {
				t.Errorf("of %d: %v, want %v", op, got, want)
			}
		}
		finds(t, s)
		finds(t, strings.ToLower(s))
	})
}
