package lines

import (
	"slices"
	"testing"
)

func TestSpansAreGoneOverAsOneLikes(t *testing.T) { // R3: left at any time, gone over again, nested
	l := []int{1, 1, 2, 1, 3, 1, 1, 1}
	want := []Span{{0, 2}, {3, 4}, {5, 8}}
	told := spans(l, 1)
	for n := 1; n <= len(want); n++ {
		var got []Span
		for s := range told {
			got = append(got, s)
			if len(got) == n {
				break
			}
		}
		if !slices.Equal(got, want[:n]) {
			t.Errorf("left behind %d: %v, want %v", n, got, want[:n])
		}
	}
	var outer []Span
	for s := range told {
		if inner := slices.Collect(told); !slices.Equal(inner, want) {
			t.Errorf("within another: %v, want %v", inner, want)
		}
		outer = append(outer, s)
	}
	if !slices.Equal(outer, want) {
		t.Errorf("around another: %v, want %v", outer, want)
	}
}

func TestSpansAreThoseOfWhenTheyWereAskedFor(t *testing.T) { // R3
	l := []int{1, 1, 2, 1}
	told := spans(l, 1)
	for range told {
		break
	}
	l[0], l[2] = 5, 1
	if got, want := slices.Collect(told), []Span{{0, 2}, {3, 4}}; !slices.Equal(got, want) {
		t.Errorf("of a table that changed: %v, want %v", got, want)
	}
}
