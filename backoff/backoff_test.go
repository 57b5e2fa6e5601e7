package backoff

import (
	"math"
	"testing"
)

func gap(t *testing.T, tries, most, want int) {
	t.Helper()
	if got := Gap(tries, most); got != want {
		t.Errorf("Gap(%d, %d): %d, not %d", tries, most, got, want)
	}
}

func sum(t *testing.T, tries, most, want int) {
	t.Helper()
	if got := Sum(tries, most); got != want {
		t.Errorf("Sum(%d, %d): %d, not %d", tries, most, got, want)
	}
}

// mosts is each most that is within, and some that are not.
func mosts() []int {
	list := []int{math.MinInt, math.MinInt + 1, -1 << 40, -64, -2, -1, 65, 66, 100, 127, 128, 129, 1 << 40, math.MaxInt - 1, math.MaxInt}
	for most := range 65 {
		list = append(list, most)
	}
	return list
}

// plainGap is the gap by the chapter's words: a power of two, or most.
func plainGap(tries, most int) int {
	if most < 0 {
		most = 0
	}
	if most > 64 {
		most = 64
	}
	if tries < 1 {
		return 0
	}
	if tries > 7 || 1<<(tries-1) > most {
		return most
	}
	return 1 << (tries - 1)
}

// P6.1: it doubles, up to the most.
func TestGapDoubles(t *testing.T) {
	for i, want := range []int{1, 2, 4, 8, 16, 32, 64, 64, 64} {
		gap(t, i+1, 64, want)
	}
	for i, want := range []int{1, 2, 4, 8, 10, 10, 10, 10} {
		gap(t, i+1, 10, want)
	}
	for i, want := range []int{1, 2, 4, 8, 8, 8} {
		gap(t, i+1, 8, want)
	}
	for i, want := range []int{1, 2, 4, 7, 7, 7} {
		gap(t, i+1, 7, want)
	}
	for i, want := range []int{1, 2, 4, 8, 9, 9} {
		gap(t, i+1, 9, want)
	}
	for i, want := range []int{1, 2, 4, 8, 16, 32, 63, 63} {
		gap(t, i+1, 63, want)
	}
	for i, want := range []int{1, 2, 4, 8, 16, 32, 33, 33} {
		gap(t, i+1, 33, want)
	}
	for tries := 1; tries < 9; tries++ {
		gap(t, tries, 1, 1)
	}
}

// P6.1: with no tries, and with fewer than none, there is none.
func TestGapOfNoTries(t *testing.T) {
	for _, most := range mosts() {
		for _, tries := range []int{0, -1, -2, -63, -64, -65, -1 << 40, math.MinInt + 1, math.MinInt} {
			gap(t, tries, most, 0)
		}
	}
}

// P6.1, R1: as many tries as an int may tell of.
func TestGapOfManyTries(t *testing.T) {
	for _, tries := range []int{32, 33, 62, 63, 64, 65, 66, 128, 129, 1 << 32, 1<<32 + 1, 1 << 40, 1<<40 + 1, 1 << 62, math.MaxInt - 1, math.MaxInt} {
		gap(t, tries, 0, 0)
		gap(t, tries, 1, 1)
		gap(t, tries, 5, 5)
		gap(t, tries, 63, 63)
		gap(t, tries, 64, 64)
		gap(t, tries, 65, 64)
		gap(t, tries, math.MaxInt, 64)
		gap(t, tries, -1, 0)
		gap(t, tries, math.MinInt, 0)
	}
}

// P6.1: a most below 0 is 0, one above 64 is 64.
func TestGapBringsMostWithin(t *testing.T) {
	for tries := -2; tries < 70; tries++ {
		for _, most := range []int{-1, -2, -64, -65, -1 << 40, math.MinInt + 1, math.MinInt} {
			gap(t, tries, most, 0)
		}
		for _, most := range []int{65, 66, 100, 127, 128, 1 << 40, math.MaxInt - 1, math.MaxInt} {
			gap(t, tries, most, Gap(tries, 64))
		}
	}
	gap(t, 7, 65, 64)
	gap(t, 8, 65, 64)
	gap(t, 8, 128, 64)
	gap(t, 8, 1000, 64)
}

// P6.1: whatever most is named.
func TestGapByWords(t *testing.T) {
	for _, most := range mosts() {
		for tries := -3; tries < 70; tries++ {
			gap(t, tries, most, plainGap(tries, most))
		}
	}
}

// P6.2: all of them together, one by one.
func TestSumByWords(t *testing.T) {
	for _, most := range mosts() {
		want := 0
		for tries := 1; tries < 200; tries++ {
			want += plainGap(tries, most)
			sum(t, tries, most, want)
		}
	}
}

// P6.2: where the most is reached, and is passed by.
func TestSum(t *testing.T) {
	for i, want := range []int{1, 3, 7, 15, 31, 63, 127, 191, 255} {
		sum(t, i+1, 64, want)
	}
	for i, want := range []int{1, 3, 7, 15, 23, 31} {
		sum(t, i+1, 8, want)
	}
	for i, want := range []int{1, 3, 7, 14, 21} {
		sum(t, i+1, 7, want)
	}
	for i, want := range []int{1, 3, 7, 15, 24} {
		sum(t, i+1, 9, want)
	}
	for tries := 1; tries < 9; tries++ {
		sum(t, tries, 1, tries)
		sum(t, tries, 0, 0)
	}
}

// P6.2: with no tries, and with fewer than none, there is nothing.
func TestSumOfNoTries(t *testing.T) {
	for _, most := range mosts() {
		for _, tries := range []int{0, -1, -2, -7, -1 << 40, math.MinInt + 1, math.MinInt} {
			sum(t, tries, most, 0)
		}
	}
}

// P6.2: a most below 0 is 0, one above 64 is 64.
func TestSumBringsMostWithin(t *testing.T) {
	for tries := -2; tries < 70; tries++ {
		for _, most := range []int{-1, -64, math.MinInt} {
			sum(t, tries, most, 0)
		}
		for _, most := range []int{65, 128, 1 << 40, math.MaxInt} {
			sum(t, tries, most, Sum(tries, 64))
		}
	}
}

// P6.2: tries above MaxNumber are MaxNumber; those up to it are all counted.
func TestSumOfManyTries(t *testing.T) {
	const last = 1 << 40
	for _, x := range []struct{ most, want int }{
		{math.MinInt, 0}, {-1, 0}, {0, 0}, {1, last}, {2, 1 + 2*(last-1)}, {3, 3 + 3*(last-2)}, {5, 7 + 5*(last-3)},
		{8, 7 + 8*(last-3)}, {63, 63 + 63*(last-6)}, {64, 63 + 64*(last-6)}, {65, 63 + 64*(last-6)}, {math.MaxInt, 63 + 64*(last-6)},
	} {
		for _, tries := range []int{last, last + 1, last + 2, 2 * last, 1 << 62, math.MaxInt - 1, math.MaxInt} {
			sum(t, tries, x.most, x.want)
		}
		one := plainGap(last, x.most)
		sum(t, last-1, x.most, x.want-one)
		sum(t, last-2, x.most, x.want-2*one)
	}
}

// P6.3: more tries never have a lesser gap, and none is above most.
func TestGapRises(t *testing.T) {
	counts := []int{math.MinInt, -1, 0, 1, 2, 3, 4, 5, 6, 7, 8, 9, 31, 32, 33, 63, 64, 65, 1<<40 - 1, 1 << 40, 1<<40 + 1, math.MaxInt}
	for _, most := range mosts() {
		bound := max(0, most)
		before := 0
		for _, tries := range counts {
			got := Gap(tries, most)
			if got < before || got > bound || got > 64 {
				t.Errorf("Gap(%d, %d): %d, behind %d", tries, most, got, before)
			}
			before = got
		}
	}
}

// P6.3: Sum of one more is Sum and that one's Gap.
func TestSumOfOneMore(t *testing.T) {
	for _, most := range mosts() {
		for tries := -3; tries < 100; tries++ {
			sum(t, tries+1, most, Sum(tries, most)+Gap(tries+1, most))
		}
		for _, tries := range []int{1 << 20, 1<<32 - 1, 1 << 32, 1<<40 - 2, 1<<40 - 1} {
			sum(t, tries+1, most, Sum(tries, most)+Gap(tries+1, most))
		}
	}
}

// P6.1, P6.2: the chapter's examples.
func TestExample(t *testing.T) {
	gap(t, 1, 5, 1)
	gap(t, 2, 5, 2)
	gap(t, 4, 5, 5)
	gap(t, 9, 100, 64)
	sum(t, 4, 5, 12)
	sum(t, 3, 0, 0)
}
