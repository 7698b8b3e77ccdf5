package file_test

import (
	"bytes"
	"fmt"
	"slices"
	"strings"
	"testing"

	"inlay/api"
	"inlay/cursor"
	"inlay/file"
	"inlay/fnc"
)

// number tells what the chapters say that a number is laid as.
func number(n uint64) []byte {
	var b []byte
	for ; n >= 128; n /= 128 {
		b = append(b, byte(n%128)+128)
	}
	return append(b, byte(n))
}

// joined tells bytes one behind the other.
func joined(l ...[]byte) []byte {
	return slices.Concat(l...)
}

// headed tells Magic, how many functions there are, and bytes.
func headed(n uint64, l ...[]byte) []byte {
	return joined([]byte{'I', 'N', 'L', '1'}, number(n), joined(l...))
}

// funcs tells what each function of p is laid as.
func funcs(p api.Program) [][]byte {
	var l [][]byte
	for _, f := range p.Funcs {
		l = append(l, fnc.Put(nil, f))
	}
	return l
}

// laid tells what the chapter says that Encode lays of p, which can be laid but for a name that stands twice, or how many they are.
func laid(p api.Program) []byte {
	return headed(uint64(len(p.Funcs)), funcs(p)...)
}

// read tells what the chapter says that Decode answers.
func read(b []byte) (api.Program, api.Errno) {
	if !strings.HasPrefix(string(b), "INL1") {
		return api.Program{}, api.ErrForm
	}
	c := cursor.New(b[4:])
	n := c.Num(40)
	if n == 0 {
		c.Fail(api.ErrMany) // the first one stays
	}
	var p api.Program
	for range n {
		p.Funcs = append(p.Funcs, fnc.Take(c))
	}
	if !unlike(p) {
		c.Fail(api.ErrName)
	}
	if err := c.End(); err != api.OK {
		return api.Program{}, err
	}
	return p, api.OK
}

// short tells as much of b as may be shown.
func short(b []byte) string {
	return fmt.Sprintf("%d bytes, %.200s", len(b), fmt.Sprint(b))
}

// reads holds what Decode tells of b, twice.
func reads(t *testing.T, what string, b []byte, want api.Program, err api.Errno) {
	t.Helper()
	was := slices.Clone(b)
	for range 2 {
		got, e := file.Decode(b)
		if e != err || !same(got, want) {
			t.Errorf("%s: Decode of %s: %s, error %d, want %s, %d", what, short(b), show(got), e, show(want), err)
		}
	}
	if !bytes.Equal(b, was) {
		t.Errorf("%s: Decode changed %s to %s", what, short(was), short(b))
	}
}

// fails holds that Decode tells of b that error, and nothing beside it.
func fails(t *testing.T, what string, b []byte, err api.Errno) {
	t.Helper()
	reads(t, what, b, api.Program{}, err)
}

// readsAs holds what Decode tells of b against what the chapter says; of what is a program's, that it is laid so.
func readsAs(t *testing.T, what string, b []byte) {
	t.Helper()
	p, err := read(b)
	reads(t, what, b, p, err)
	if err == api.OK {
		lays(t, what+", read", p, b)
	}
}

// lays holds that Encode lays p, as these bytes.
func lays(t *testing.T, what string, p api.Program, want []byte) {
	t.Helper()
	for range 2 {
		if b, err := file.Encode(p); err != api.OK || !bytes.Equal(b, want) {
			t.Errorf("%s: Encode of %s: %s, error %d, want %s", what, show(p), short(b), err, short(want))
		}
	}
}

// plainBytes and wholeBytes tell what the chapters say that plain and whole are laid as.
func plainBytes() []byte {
	return []byte{1, 'f', 0, 0, 0, 0, 1, 25, 1, 2}
}

func wholeBytes() []byte {
	return []byte{
		6, 's', 't', 'e', 'p', '_', '2', 3,
		2, 1, 2, 3, 2, 1, 1, 1, 1, 2, 2, 2,
		6, 1, 5, 3, 6, 33, 2, 2, 2, 34, 2, 25,
		2, 14, 1, 18, 1, 254, 255, 7, 1, 0, 1, 18,
		2, 1, 0, 0, 0, 0, 6, 0, 0, 78, 14, 6, 2, 12, 10,
		2, 0, 3, 2, 1, 0,
		1, 0, 0, 0, 0, 1, 1, 0, 0, 0, 2, 33, 0, 0, 0, 2, 2, 0, 0, 0,
	}
}

// plainAs tells plain's bytes with this letter as its name.
func plainAs(name byte) []byte {
	return with(plainBytes(), 1, name)
}

func TestMagic(t *testing.T) {
	if file.Magic != "INL1" {
		t.Errorf("Magic: %q", file.Magic)
	}
}

func TestExample(t *testing.T) {
	fails(t, "Magic alone", []byte("INL1"), api.ErrShort)
}

func TestBytesByHand(t *testing.T) { // P16.1, P16.2
	for what, x := range map[string]struct {
		p api.Program
		b []byte
	}{
		"plain":             {of(plain()), joined([]byte("INL1\x01"), plainBytes())},
		"whole":             {of(whole()), joined([]byte("INL1\x01"), wholeBytes())},
		"plain and whole":   {of(plain(), whole()), joined([]byte("INL1\x02"), plainBytes(), wholeBytes())},
		"whole and plain":   {of(whole(), plain()), joined([]byte("INL1\x02"), wholeBytes(), plainBytes())},
		"three, in a row":   {of(named(plain(), "c"), named(plain(), "a"), named(plain(), "b")), joined([]byte("INL1\x03"), plainAs('c'), plainAs('a'), plainAs('b'))},
		"whole between two": {of(named(plain(), "z"), whole(), plain()), joined([]byte("INL1\x03"), plainAs('z'), wholeBytes(), plainBytes())},
	} {
		lays(t, what, x.p, x.b)
		reads(t, what, x.b, x.p, api.OK)
	}
}

func TestEncodeOfRights(t *testing.T) { // P16.1, P16.3: what is laid is read as it was
	for name, p := range rights() {
		b := laid(p)
		lays(t, name, p, b)
		reads(t, name, b, p, api.OK)
		if !bytes.HasPrefix(b, append([]byte(file.Magic), byte(len(p.Funcs)))) {
			t.Errorf("%s: it begins with %v", name, b[:5])
		}
	}
}

func TestEncodeOfWrongs(t *testing.T) { // P16.1: nothing, and Can's error
	for name, p := range wrongs() {
		if b, err := file.Encode(p); len(b) != 0 || err != can(p) || err != file.Can(p) {
			t.Errorf("%s: Encode of %s: %s, error %d, want %d", name, show(p), short(b), err, can(p))
		}
	}
}

func TestEncodeAsksNothingBehindTheEnd(t *testing.T) { // P16.1
	for name, p := range rights() {
		lays(t, name, roomy(p, 4), laid(p))
	}
}

func TestEncodeTellsNewMemory(t *testing.T) { // P16.1, R3
	for name, p := range rights() {
		want := laid(p)
		first, _ := file.Encode(p)
		second, _ := file.Encode(p)
		fill(first, 0xee)
		if !bytes.Equal(second, want) {
			t.Errorf("%s: another answer changed with the first one", name)
		}
		lays(t, name+", behind a change of an answer", p, want)
		holds(t, name+": what was laid, behind a change of an answer", p, clone(p))
		q := clone(p)
		b, _ := file.Encode(q)
		over(q)
		if !bytes.Equal(b, want) {
			t.Errorf("%s: the answer changed with what was laid", name)
		}
	}
}

func TestDecodeOfMagic(t *testing.T) { // P16.2
	good := laid(of(row(3)...))
	for _, behind := range [][]byte{nil, {0}, {1}, {41}, {128, 0}, good[4:], good[4 : len(good)-1], joined(good[4:], []byte{0}), headed(2, plainBytes(), plainBytes())[4:], bytes.Repeat([]byte{255}, 99)} {
		for _, s := range []string{
			"inl1", "Inl1", "INl1", "iNL1", "INL0", "INL2", "INL\x01", "INLl", "INLI", "INLx", "JNL1", "IML1", "INM1", "1LNI", "NLI1", "0000", "\x00\x00\x00\x00", "\xff\xff\xff\xff",
			" INL1", "\x00INL1", "\ufeffINL1", "IINL1", "IN L1", "INL 1", "INLL1", "XXXXINL1",
		} {
			fails(t, s, joined([]byte(s), behind), api.ErrForm)
		}
		for k := range 4 {
			for x := range 256 {
				if head := with([]byte("INL1"), k, byte(x)); string(head) != "INL1" {
					fails(t, "a byte of Magic changed", joined(head, behind), api.ErrForm)
				}
			}
		}
	}
	for k := range 4 {
		fails(t, "a beginning of Magic", []byte("INL1")[:k], api.ErrForm)
		fails(t, "a beginning of Magic, and more behind the end", good[:k], api.ErrForm)
		fails(t, "a program without so many bytes of Magic", good[k+1:], api.ErrForm)
	}
	fails(t, "nil", nil, api.ErrForm)
	fails(t, "empty", []byte{}, api.ErrForm)
	fails(t, "Magic, and how many behind the end", good[:4], api.ErrShort)
	fails(t, "Magic twice", joined([]byte("INL1"), good), api.ErrMany) // 73 functions
}

func TestDecodeOfHowMany(t *testing.T) { // P16.2
	behinds := [][]byte{nil, {0}, plainBytes(), {255}, bytes.Repeat([]byte{128}, 20), joined(funcs(of(row(41)...))...)}
	for _, n := range []uint64{0, 41, 42, 64, 127, 128, 129, 168, 255, 256, 297, 1 << 14, 1 << 32, 1<<32 + 1, 1<<32 + 40, 1 << 63, 1<<63 + 1, 1<<64 - 1} {
		for _, behind := range behinds {
			fails(t, fmt.Sprint("how many ", n), headed(n, behind), api.ErrMany)
		}
	}
	for _, x := range []struct {
		b   []byte
		err api.Errno
	}{
		{[]byte{128, 0}, api.ErrLong}, {[]byte{129, 0}, api.ErrLong}, {[]byte{168, 0}, api.ErrLong}, {[]byte{169, 0}, api.ErrLong}, {[]byte{129, 128, 0}, api.ErrLong}, {[]byte{129, 128, 128, 128, 128, 128, 128, 128, 128, 0}, api.ErrLong},
		{[]byte{255, 255, 255, 255, 255, 255, 255, 255, 255, 2}, api.ErrForm}, {[]byte{129, 128, 128, 128, 128, 128, 128, 128, 128, 128}, api.ErrForm}, {bytes.Repeat([]byte{255}, 12), api.ErrForm},
	} {
		for _, behind := range behinds {
			fails(t, "how many, not the shortest or too long", joined([]byte("INL1"), x.b, behind), x.err)
		}
	}
	for k := range 9 {
		fails(t, "how many, cut off", joined([]byte("INL1"), bytes.Repeat([]byte{129}, k)), api.ErrShort)
	}
	for _, n := range []int{1, 2, 39, 40} {
		reads(t, fmt.Sprint("how many ", n), laid(of(row(n)...)), of(row(n)...), api.OK)
	}
	fails(t, "how many 41", laid(of(row(41)...)), api.ErrMany)
	fails(t, "none", laid(api.Program{}), api.ErrMany)
}

func TestDecodeOfFewerAndMoreThanAreTold(t *testing.T) { // P16.2
	for _, there := range []int{0, 1, 2, 3, 39, 40, 41} {
		all := funcs(of(row(there)...))
		for _, told := range []int{1, 2, 3, 4, 39, 40} {
			b := headed(uint64(told), all...)
			switch what := fmt.Sprintf("%d functions, %d told", there, told); {
			case there < told:
				fails(t, what, b, api.ErrShort)
			case there > told:
				fails(t, what, b, api.ErrLong)
			default:
				reads(t, what, b, of(row(there)...), api.OK)
			}
		}
	}
}

func TestDecodeOfAnEndAtEachPlace(t *testing.T) { // P16.2
	for name, p := range rights() {
		b := laid(p)
		step := 1 + len(b)/700
		for k := 0; k < len(b); k += step {
			want := api.ErrShort
			if k < 4 {
				want = api.ErrForm
			}
			fails(t, fmt.Sprintf("%s, the first %d", name, k), b[:k], want)
			fails(t, fmt.Sprintf("%s, the first %d, in memory of their own", name, k), slices.Clone(b[:k:k]), want)
		}
	}
}

// broken is bytes that are no function's, and why, whatever stands behind.
type broken struct {
	b   []byte
	err api.Errno
}

// brokens tells of each error that a function's bytes may have some bytes.
func brokens() []broken {
	tables := []byte{1, 'x', 2, 0, 0, 1, 1, 1, 25, 1, 2} // one slot, one instruction; the tables are to follow
	tree := []byte{1, 1, 0, 0, 0, 0, 2, 0}
	return []broken{
		{[]byte{128, 0}, api.ErrLong}, {[]byte{1, 'x', 0, 128, 0}, api.ErrLong}, {[]byte{1, 'x', 0, 0, 0, 0, 129, 0, 25, 1, 2}, api.ErrLong}, {joined(tables, tree, []byte{129, 0}), api.ErrLong},
		{[]byte{1, 'x', 4}, api.ErrForm}, {[]byte{1, 'x', 255}, api.ErrForm}, {[]byte{1, 'x', 0, 0, 0, 0, 1, 25, 0, 2}, api.ErrForm}, {joined(tables, tree, []byte{1, 0, 0, 0, 0, 0, 0}), api.ErrForm},
		{[]byte{13, 'a'}, api.ErrMany}, {[]byte{255, 127}, api.ErrMany}, {[]byte{1, 'x', 0, 9}, api.ErrMany}, {[]byte{1, 'x', 0, 0, 0, 0, 0}, api.ErrMany}, {[]byte{1, 'x', 0, 0, 0, 0, 209, 15}, api.ErrMany},
		{joined([]byte{1, 'x', 0, 1, 1, 0, 128, 2}, times[byte](256, 1)), api.ErrMany}, {joined(tables, []byte{121}), api.ErrMany},
		{[]byte{0}, api.ErrName}, {[]byte{1, 'A'}, api.ErrName}, {[]byte{2, 'a', 0}, api.ErrName},
		{[]byte{1, 'x', 0, 0, 0, 0, 1, 35}, api.ErrOp}, {[]byte{1, 'x', 0, 0, 0, 0, 1, 255}, api.ErrOp},
		{[]byte{1, 'x', 0, 1, 3, 0, 0, 1, 25, 1, 2}, api.ErrType}, {[]byte{1, 'x', 1, 2, 1, 0, 0, 0, 0, 1, 25, 1, 2}, api.ErrType},
		{[]byte{1, 'x', 0, 0, 0, 0, 1, 2, 1}, api.ErrArg}, {[]byte{1, 'x', 0, 0, 0, 0, 1, 25, 1, 1}, api.ErrArg}, {joined(tables, tree, []byte{1, 2}), api.ErrArg},
		{joined(tables, []byte{0}), api.ErrTable}, {joined(tables, []byte{1, 0, 0, 0, 0, 0, 0, 0}), api.ErrTable}, {joined(tables, tree, []byte{1, 0, 1, 2, 0, 0, 0}), api.ErrTable},
		{[]byte{1, 'x', 0, 0, 0, 128, 2}, api.ErrShort}, // 256 locals, and not as many bytes behind
	}
}

func TestDecodeOfABrokenFunction(t *testing.T) { // P16.2: at the first, a middle and the last place
	told := map[api.Errno]int{}
	for _, x := range brokens() {
		told[x.err]++
		for _, n := range []int{1, 2, 3, 7, 15} {
			for _, at := range []int{0, n / 2, n - 1} {
				var l [][]byte
				for k := range n {
					l = append(l, plainAs('a'+byte(k)))
				}
				l[at] = x.b
				what := fmt.Sprintf("at %d of %d %v", at, n, x.b)
				fails(t, what, headed(uint64(n), l...), x.err)
				fails(t, what+", and the end", headed(uint64(n), l[:at+1]...), x.err)
				fails(t, what+", and bytes left", headed(uint64(n), append(l, []byte{9, 9})...), x.err)
			}
		}
	}
	for _, err := range []api.Errno{api.ErrShort, api.ErrLong, api.ErrForm, api.ErrMany, api.ErrName, api.ErrOp, api.ErrType, api.ErrArg, api.ErrTable} {
		if told[err] == 0 {
			t.Errorf("error %d: none of them", err)
		}
	}
}

func TestDecodeTellsTheFirstOfTwoBrokenFunctions(t *testing.T) { // P16.2, R2
	for _, x := range brokens() {
		for _, y := range brokens() {
			if x.err == api.ErrShort && len(y.b) > 100 {
				continue // with those there are bytes enough
			}
			what := fmt.Sprintf("%v and %v", x.b, y.b)
			fails(t, what, headed(2, x.b, y.b), x.err)
			fails(t, what+", between others", headed(5, plainAs('a'), x.b, plainAs('b'), y.b, plainAs('c')), x.err)
		}
	}
}

func TestDecodeOfABrokenFunctionBesideOthers(t *testing.T) { // P16.2, R2: ahead of it stands how many, behind it names and what is left
	for _, x := range brokens() {
		fails(t, "none told", headed(0, x.b), api.ErrMany)
		fails(t, "41 told", headed(41, x.b), api.ErrMany)
		fails(t, "too long", joined([]byte("INL1"), []byte{129, 0}, x.b), api.ErrLong)
		fails(t, "another Magic", joined([]byte("INL2\x01"), x.b), api.ErrForm)
		fails(t, "behind a name twice", headed(3, plainBytes(), plainBytes(), x.b), x.err)
		fails(t, "between a name twice", headed(3, plainBytes(), x.b, plainBytes()), x.err)
		fails(t, "ahead of a name twice", headed(3, x.b, plainBytes(), plainBytes()), x.err)
		fails(t, "behind a name twice, bytes left", headed(3, plainBytes(), plainBytes(), x.b, []byte{0}), x.err)
		reads(t, "behind the program's end", headed(1, plainBytes(), x.b), api.Program{}, api.ErrLong)
	}
}

func TestDecodeOfANameTwice(t *testing.T) { // P16.2
	for what, l := range map[string][]string{
		"two": {"a", "a"}, "first and last": {"a", "b", "c", "a"}, "next to each other": {"b", "a", "a", "c"}, "at the end": {"c", "b", "a", "a"}, "three times": {"a", "b", "a", "a"},
		"two of them twice": {"a", "b", "a", "b"}, "long ones": {"abcdefghijkl", "b", "abcdefghijkl"}, "all of 40": times(40, "f"),
	} {
		b := laid(called(l...))
		fails(t, what, b, api.ErrName)
		fails(t, what+", a byte left", joined(b, []byte{0}), api.ErrName)
		fails(t, what+", many left", joined(b, b, b), api.ErrName)
		fails(t, what+", cut off", b[:len(b)-1], api.ErrShort)
		if len(l) < 40 {
			fails(t, what+", one function fewer than told", headed(uint64(len(l)+1), b[5:]), api.ErrShort)
		}
	}
	for _, n := range []int{2, 3, 40} {
		for _, x := range [][2]int{{0, n - 1}, {n - 2, n - 1}, {0, 1}} {
			p := of(row(n)...)
			p.Funcs[x[0]].Name = p.Funcs[x[1]].Name
			fails(t, fmt.Sprintf("of %d names the same at %v", n, x), laid(p), api.ErrName)
		}
	}
	fails(t, "the second one behind as many as told", headed(1, plainBytes(), plainBytes()), api.ErrLong)
}

func TestDecodeOfBytesLeft(t *testing.T) { // P16.2
	for name, p := range rights() {
		b := laid(p)
		for _, left := range [][]byte{{0}, {1}, {255}, {128}, {10}, plainBytes(), b, []byte("INL1"), bytes.Repeat([]byte{0}, 5000)} {
			fails(t, name+", bytes left", joined(b, left), api.ErrLong)
		}
		room := joined(b, []byte{1, 2, 3})
		reads(t, name+", bytes behind the end", room[:len(b)], p, api.OK)
	}
}

func TestDecodeOfAByteChanged(t *testing.T) { // P16.2, P16.3
	for _, p := range []api.Program{of(plain(), whole()), of(named(plain(), "g"), plain()), of(row(6)...)} {
		b := laid(p)
		for k := range b {
			for x := range 256 {
				if len(b) < 200 || x%7 == k%7 {
					readsAs(t, "a byte changed", with(b, k, byte(x)))
				}
			}
		}
	}
}

func TestDecodeOfAByteMoreAndOneFewer(t *testing.T) { // P16.2, P16.3
	for _, p := range []api.Program{of(plain(), whole()), of(named(plain(), "g"), plain(), named(plain(), "h"))} {
		b := laid(p)
		for k := range b {
			readsAs(t, "a byte fewer", slices.Delete(slices.Clone(b), k, k+1))
			for _, x := range []byte{0, 1, 2, 3, 25, 34, 35, 127, 128, 255} {
				readsAs(t, "a byte more", slices.Insert(slices.Clone(b), k, x))
			}
		}
	}
}

func TestWhatIsReadCanBeLaid(t *testing.T) { // P16.3: bytes that are a program's are just those that it is laid as
	d := dice(9)
	held := 0
	for range 4000 {
		p := d.program(6)
		b := laid(p)
		for range d.roll(3) {
			b = with(b, d.roll(len(b)), byte(d.roll(1+d.roll(256))))
		}
		readsAs(t, "changed", b)
		q, err := file.Decode(b)
		if err != api.OK {
			continue
		}
		held++
		if err := file.Can(q); err != api.OK {
			t.Errorf("Decode of %s: %s, which can't be laid, error %d", short(b), show(q), err)
		}
		if c, err := file.Encode(q); err != api.OK || !bytes.Equal(b, c) {
			t.Errorf("%s, read and laid again: %s, error %d", short(b), short(c), err)
		}
	}
	if held < 800 || held > 3500 {
		t.Errorf("of 4000 bytes %d are a program's: too few of some kind to tell", held)
	}
}

func TestUnlikeProgramsAreLaidUnlike(t *testing.T) { // P16.3
	met := map[string]string{}
	for name, p := range rights() {
		b, _ := file.Encode(p)
		if other, has := met[string(b)]; has && !same(p, rights()[other]) {
			t.Errorf("%s and %s are laid as the same bytes", name, other)
		}
		met[string(b)] = name
	}
}

func TestDecodeTellsNewMemory(t *testing.T) { // P16.2, R3
	for name, p := range rights() {
		b := laid(p)
		was := slices.Clone(b)
		alone(t, name+": Decode", func() api.Program { q, _ := file.Decode(b); return q })
		first, _ := file.Decode(b)
		second, _ := file.Decode(b)
		over(first)
		holds(t, name+": another answer", second, p)
		reads(t, name+": a later answer", b, p, api.OK)
		if !bytes.Equal(b, was) {
			t.Errorf("%s: the bytes changed with an answer", name)
		}
		fill(b, 'q')
		holds(t, name+": an answer, behind a change of the bytes", second, p)
	}
}

func TestDecodeBehindAnError(t *testing.T) { // R4: what failed leaves nothing behind
	good := laid(of(row(7)...))
	for _, x := range brokens() {
		fails(t, "broken", headed(2, plainBytes(), x.b), x.err)
		reads(t, "behind a broken one", good, of(row(7)...), api.OK)
		cans(t, "behind a broken one", of(row(7)...), api.OK)
		lays(t, "behind a broken one", of(row(7)...), good)
	}
	for _, x := range faults() {
		p := of(row(3)...)
		x.make(&p.Funcs[2])
		cans(t, x.name, p, x.err)
		reads(t, "behind "+x.name, good, of(row(7)...), api.OK)
		lays(t, "behind "+x.name, of(row(7)...), good)
	}
}

func FuzzDecode(f *testing.F) { // P16.2, P16.3, P1
	for _, p := range rights() {
		if b := laid(p); len(b) < 2000 {
			f.Add(b)
		}
	}
	for _, x := range brokens() {
		f.Add(headed(2, plainBytes(), x.b))
	}
	f.Add([]byte("INL1"))
	f.Fuzz(func(t *testing.T, b []byte) {
		readsAs(t, "any", b)
		readsAs(t, "any, behind Magic", joined([]byte("INL1"), b))
		readsAs(t, "any, behind a function", headed(2, plainBytes(), b))
	})
}

func FuzzProgram(f *testing.F) { // P16.1 to P16.3, P1: any program, with any faults
	f.Add(uint64(1), []byte{})
	f.Add(uint64(16), []byte{0, 12, 20})
	f.Add(uint64(1<<40), []byte{1, 4, 14})
	all := faults()
	f.Fuzz(func(t *testing.T, seed uint64, with []byte) {
		d := dice(seed)
		p := d.program(43)
		for _, k := range with[:min(len(with), 8)] {
			all[int(k)%len(all)].make(&p.Funcs[d.roll(len(p.Funcs))])
		}
		was := clone(p)
		cans(t, "any", p, can(p))
		if !file.Same(p, file.Copy(p)) || file.Same(p, of(p.Funcs[1:]...)) {
			t.Errorf("Same of %s and its copy, or it but for one", show(p))
		}
		if can(p) == api.OK {
			lays(t, "any", p, laid(p))
			reads(t, "any", laid(p), p, api.OK)
		}
		holds(t, "what was handed in", p, was)
	})
}
