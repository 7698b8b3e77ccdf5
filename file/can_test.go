package file_test

import (
	"fmt"
	"slices"
	"testing"

	"inlay/api"
	"inlay/file"
	"inlay/fnc"
)

// cans holds what Can tells of p, and that Encode tells that error, and nothing beside it.
func cans(t *testing.T, what string, p api.Program, want api.Errno) {
	t.Helper()
	if got := file.Can(p); got != want {
		t.Errorf("%s: Can of %s: error %d, want %d", what, show(p), got, want)
	}
	if b, err := file.Encode(p); err != want || (len(b) > 0) != (want == api.OK) {
		t.Errorf("%s: Encode of %s: %d bytes, error %d, want %d", what, show(p), len(b), err, want)
	}
}

func TestCanOfHowMany(t *testing.T) { // P16.1: none, one, 40, 41
	for _, n := range []int{0, 1, 2, 3, 39, 40, 41, 42, 80, 255, 256, 257, 296, 65537} {
		want := api.ErrMany
		if n >= 1 && n <= 40 {
			want = api.OK
		}
		p := of(row(n)...)
		cans(t, fmt.Sprint("functions ", n), p, want)
		cans(t, fmt.Sprint("functions and room ", n), api.Program{Funcs: p.Funcs[:n:n]}, want)
	}
	room := row(41)
	cans(t, "none, and room", api.Program{Funcs: room[:0]}, api.ErrMany)
	cans(t, "40, and one behind them", api.Program{Funcs: room[:40]}, api.OK)
	cans(t, "an empty list", of([]api.Func{}...), api.ErrMany)
}

func TestCanOfRights(t *testing.T) { // P16.1
	for name, p := range rights() {
		cans(t, name, p, api.OK)
	}
}

func TestCanOfManyAheadOfAll(t *testing.T) { // P16.1, R2: more than 40, and each other reason
	for _, n := range []int{41, 42, 100} {
		for _, x := range faults() {
			for _, at := range []int{0, 20, 39, 40, n - 1} {
				p := of(row(n)...)
				x.make(&p.Funcs[at])
				cans(t, fmt.Sprintf("%d functions, %s at %d", n, x.name, at), p, api.ErrMany)
			}
		}
		cans(t, "all alike", of(times(n, plain())...), api.ErrMany)
		cans(t, "zero ones", of(make([]api.Func, n)...), api.ErrMany)
	}
}

func TestCanOfOneFault(t *testing.T) { // P16.1: at the first, a middle and the last place, for each reason
	for _, x := range faults() {
		for _, n := range []int{1, 2, 3, 7, 40} {
			for _, at := range []int{0, n / 2, n - 1} {
				for k := range 6 {
					p := of(row(n)...)
					p.Funcs[at] = named(kind(k), p.Funcs[at].Name)
					x.make(&p.Funcs[at])
					cans(t, fmt.Sprintf("%s at %d of %d", x.name, at, n), p, x.err)
				}
			}
		}
	}
	cans(t, "a zero one", of(api.Func{}), api.ErrName)
	cans(t, "a zero one behind another", of(plain(), api.Func{}), api.ErrName)
}

func TestCanOfTwoFaults(t *testing.T) { // P16.1, R2: the one that stands ahead, whichever fnc names first
	told := map[[2]api.Errno]bool{}
	for _, x := range faults() {
		for _, y := range faults() {
			for _, at := range [][2]int{{0, 1}, {0, 6}, {2, 4}, {5, 6}} {
				p := of(row(7)...)
				x.make(&p.Funcs[at[0]])
				y.make(&p.Funcs[at[1]])
				cans(t, fmt.Sprintf("%s at %d, %s at %d", x.name, at[0], y.name, at[1]), p, x.err)
			}
			told[[2]api.Errno{x.err, y.err}] = true
		}
	}
	if len(told) != 36 {
		t.Errorf("%d pairs of errors, want one of each two of six", len(told))
	}
}

func TestCanOfAFunctionWithTwoFaults(t *testing.T) { // P16.1: as fnc tells them
	for _, x := range faults() {
		for _, y := range faults() {
			p := of(row(3)...)
			x.make(&p.Funcs[1])
			y.make(&p.Funcs[1])
			cans(t, x.name+", and "+y.name, p, fnc.Can(p.Funcs[1]))
		}
	}
}

func TestCanOfANameTwice(t *testing.T) { // P16.1
	for _, n := range []int{2, 3, 7, 40} {
		for _, x := range [][2]int{{0, n - 1}, {0, 1}, {n - 2, n - 1}, {n / 2, n - 1}, {0, n / 2}} {
			p := of(row(n)...)
			if x[0] == x[1] {
				continue
			}
			p.Funcs[x[0]].Name = p.Funcs[x[1]].Name
			cans(t, fmt.Sprintf("of %d names the same at %v", n, x), p, api.ErrName)
		}
		cans(t, "all alike", of(times(n, plain())...), api.ErrName)
	}
	for what, x := range map[string]struct {
		l    []string
		want api.Errno
	}{
		"next to each other":      {[]string{"a", "a"}, api.ErrName},
		"at both ends":            {[]string{"a", "b", "c", "a"}, api.ErrName},
		"three times":             {[]string{"a", "b", "a", "c", "a"}, api.ErrName},
		"three times in a row":    {[]string{"a", "a", "a"}, api.ErrName},
		"two of them twice":       {[]string{"a", "b", "b", "a"}, api.ErrName},
		"two of them, one behind": {[]string{"a", "b", "a", "b"}, api.ErrName},
		"as long as may be":       {[]string{"abcdefghijkl", "b", "abcdefghijkl"}, api.ErrName},
		"all but the last letter": {[]string{"abcdefghijkl", "b", "abcdefghijkm"}, api.OK},
		"one a beginning":         {[]string{"ab", "a", "abc"}, api.OK},
		"digits, and _":           {[]string{"a0", "a_", "a1", "a"}, api.OK},
	} {
		cans(t, what, called(x.l...), x.want)
	}
	l := row(41)
	l[40].Name = l[0].Name
	cans(t, "the second one behind the end", api.Program{Funcs: l[:40]}, api.OK)
}

func TestCanOfTheSameButForTheName(t *testing.T) { // P16.1: names alone must differ
	for k := range 6 {
		cans(t, "the same but for the name", of(named(kind(k), "a"), named(kind(k), "b"), named(kind(k), "c")), api.OK)
		for j := range 6 {
			cans(t, "a name twice, and all else other", of(named(kind(k), "a"), named(kind(j), "a")), api.ErrName)
		}
	}
}

func TestCanOfANameTwiceBesideAFault(t *testing.T) { // P16.1, R2: the fault is told, wherever it stands
	for _, x := range faults() {
		for at := range 5 {
			for _, twice := range [][2]int{{0, 4}, {0, 1}, {3, 4}, {1, 3}} {
				p := of(row(5)...)
				p.Funcs[twice[1]].Name = p.Funcs[twice[0]].Name
				x.make(&p.Funcs[at])
				cans(t, fmt.Sprintf("names the same at %v, %s at %d", twice, x.name, at), p, x.err)
			}
		}
	}
}

func TestCanOfAny(t *testing.T) { // P16.1
	d := dice(5)
	all := faults()
	told := map[api.Errno]int{}
	for range 3000 {
		p := d.program(8)
		var what []string
		for range d.roll(3) {
			x := all[d.roll(len(all))]
			x.make(&p.Funcs[d.roll(len(p.Funcs))])
			what = append(what, x.name)
		}
		want := can(p)
		told[want]++
		cans(t, fmt.Sprint(what), p, want)
	}
	for _, err := range []api.Errno{api.OK, api.ErrName, api.ErrType, api.ErrMany, api.ErrOp, api.ErrLine, api.ErrTable} {
		if told[err] < 50 {
			t.Errorf("error %d: %d of them, too few to tell", err, told[err])
		}
	}
	for name, p := range wrongs() {
		cans(t, name, p, can(p))
	}
}

func TestCanHangsOnTheProgramAlone(t *testing.T) { // P16.1, R4: whatever was asked ahead
	var l []api.Program
	for _, p := range wrongs() {
		l = append(l, p)
	}
	for _, p := range rights() {
		l = append(l, p)
	}
	var first []api.Errno
	for _, p := range l {
		first = append(first, file.Can(p))
	}
	for k, p := range slices.Backward(l) {
		if got := file.Can(p); got != first[k] {
			t.Errorf("Can of %s: error %d, and then %d", show(p), first[k], got)
		}
	}
}
