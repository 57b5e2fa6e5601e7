package buckets

import (
	"math"
	"testing"

	"fairway/api"
)

func made(t *testing.T, capacity, refill int) *Bucket {
	t.Helper()
	b, e := New(capacity, refill)
	if b == nil || e != api.OK {
		t.Fatalf("New(%d, %d): %v, error %d", capacity, refill, b, int(e))
	}
	return b
}

func left(t *testing.T, b *Bucket, now, want int) {
	t.Helper()
	if got := b.Left(now); got != want {
		t.Errorf("Left(%d): %d, not %d", now, got, want)
	}
}

func take(t *testing.T, b *Bucket, now int, want bool) {
	t.Helper()
	if got := b.Take(now); got != want {
		t.Errorf("Take(%d): %v, not %v", now, got, want)
	}
}

// drain takes all that it has.
func drain(t *testing.T, b *Bucket, now, want int) {
	t.Helper()
	for range want {
		take(t, b, now, true)
	}
	take(t, b, now, false)
}

// P5.1: a full one, of each capacity that may be.
func TestNew(t *testing.T) {
	for capacity := 0; capacity <= 16; capacity++ {
		for _, refill := range []int{1, 2, 10, 1<<40 - 1, 1 << 40} {
			b := made(t, capacity, refill)
			left(t, b, 0, capacity)
			drain(t, b, 0, capacity)
		}
	}
}

// P5.1
func TestNewRefuses(t *testing.T) {
	for _, x := range [][2]int{
		{-1, 1}, {17, 1}, {math.MinInt, 1}, {math.MaxInt, 1},
		{1, 0}, {1, -1}, {1, 1<<40 + 1}, {1, math.MinInt}, {1, math.MaxInt},
		{0, 0}, {16, 1<<40 + 1}, {-1, 0}, {17, 1<<40 + 1},
	} {
		if b, e := New(x[0], x[1]); b != nil || e != api.ErrArg {
			t.Errorf("New of %v: %v, error %d", x, b, int(e))
		}
	}
}

// P5.2: a token comes at its tick, neither ahead of it nor behind it.
func TestRefill(t *testing.T) {
	for _, refill := range []int{1, 2, 7, 64, 1 << 30} {
		b := made(t, 3, refill)
		drain(t, b, 0, 3)
		for k := 1; k <= 3; k++ {
			left(t, b, k*refill-1, k-1)
			left(t, b, k*refill, k)
		}
		left(t, b, 4*refill, 3)
		left(t, b, 100*refill, 3)
	}
}

// P5.2: several tokens come at once, and what has gone by of the next one's wait is kept.
func TestRefillSeveral(t *testing.T) {
	b := made(t, 5, 10)
	drain(t, b, 0, 5)
	left(t, b, 39, 3)
	drain(t, b, 39, 3)
	left(t, b, 40, 1)
	left(t, b, 49, 1)
	left(t, b, 50, 2)
}

// P5.2: what is waited for begins with the take out of a full one, not with the tick at which it became full.
func TestWaitBeginsWhenItIsNotFull(t *testing.T) {
	b := made(t, 2, 10)
	take(t, b, 25, true)
	left(t, b, 34, 1)
	left(t, b, 35, 2)
	left(t, b, 44, 2)
	take(t, b, 44, true)
	left(t, b, 53, 1)
	left(t, b, 54, 2)

	became := made(t, 2, 10)
	drain(t, became, 0, 2)
	take(t, became, 27, true) // full since 20 till now
	take(t, became, 27, true)
	take(t, became, 36, false)
	left(t, became, 37, 1)
}

// P5.2: a take that is not out of a full one leaves what is waited for as it is.
func TestTakeOfOneThatIsNotFull(t *testing.T) {
	b := made(t, 3, 10)
	take(t, b, 4, true)
	take(t, b, 9, true)
	take(t, b, 13, true)
	take(t, b, 13, false)
	take(t, b, 14, true)
	take(t, b, 23, false)
	left(t, b, 24, 1)
}

// P5.2: a tick below its own is its own.
func TestTickBelow(t *testing.T) {
	b := made(t, 2, 10)
	for _, now := range []int{-1, math.MinInt, 0} {
		left(t, b, now, 2)
	}
	take(t, b, -5, true)
	left(t, b, 9, 1)
	left(t, b, 10, 2)
	take(t, b, 3, true) // at 10
	take(t, b, math.MinInt, true)
	take(t, b, 0, false)
	left(t, b, 19, 0)
	left(t, b, 20, 1)
	left(t, b, 3, 1)
	take(t, b, 3, true)
	left(t, b, 29, 0)
	left(t, b, 30, 1)
}

// P5.2: the tick is kept by a Left, too, and by a Take that takes nothing.
func TestTickIsKept(t *testing.T) {
	b := made(t, 1, 10)
	left(t, b, 50, 1)
	take(t, b, 7, true) // at 50
	left(t, b, 17, 0)
	take(t, b, 59, false)
	left(t, b, 60, 1)

	none := made(t, 1, 10)
	take(t, none, 0, true)
	take(t, none, 9, false)
	left(t, none, 0, 0)
	left(t, none, 10, 1)
}

// P5.2: a tick above MaxTick is that one.
func TestTickAbove(t *testing.T) {
	for _, now := range []int{1 << 40, 1<<40 + 1, 1<<40 + 5, 1 << 62, math.MaxInt} {
		b := made(t, 2, 1)
		drain(t, b, now, 2)
		take(t, b, 1<<40+1, false)
		take(t, b, math.MaxInt, false)
		left(t, b, 0, 0)
	}
	b := made(t, 2, 10)
	drain(t, b, 1<<40-10, 2)
	left(t, b, 1<<40-1, 0)
	left(t, b, math.MaxInt, 1)
	drain(t, b, math.MaxInt, 1)
}

// P5.2: the longest refill comes once, at the last tick.
func TestLongestRefill(t *testing.T) {
	b := made(t, 16, 1<<40)
	drain(t, b, 0, 16)
	left(t, b, 1<<40-1, 0)
	left(t, b, math.MaxInt, 1)
	drain(t, b, math.MaxInt, 1)

	late := made(t, 1, 1<<40)
	take(t, late, 1, true)
	left(t, late, math.MaxInt, 0)
}

// P5.2: of one that has room for none, nothing is ever taken.
func TestNoCapacity(t *testing.T) {
	b := made(t, 0, 1)
	for _, now := range []int{0, 1, 2, 1000, -1, math.MinInt, 1 << 40, math.MaxInt} {
		left(t, b, now, 0)
		take(t, b, now, false)
	}
}

// P5.3: two that were one go on by themselves.
func TestCopy(t *testing.T) {
	b := made(t, 2, 10)
	take(t, b, 4, true)
	take(t, b, 17, true) // there were two, since 14
	take(t, b, 17, true)
	c := b.Copy()
	if c == nil || c == b {
		t.Fatalf("Copy: %p of %p", c, b)
	}
	left(t, c, 5, 0) // its tick is 17
	left(t, c, 26, 0)
	left(t, c, 27, 1)
	left(t, b, 18, 0)
	drain(t, b, 40, 2)
	left(t, c, 37, 2)
	drain(t, c, 37, 2)
	left(t, b, 49, 0)
	left(t, b, 50, 1)
	left(t, c, 47, 1)
	full := made(t, 1, 10)
	left(t, full, 50, 1)
	c = full.Copy()
	take(t, c, 7, true) // at 50
	left(t, c, 59, 0)
	left(t, c, 60, 1)
	left(t, made(t, 3, 5).Copy(), 0, 3)
	left(t, made(t, 0, 5).Copy(), 9, 0)
	if made(t, 0, 5).Copy() == nil {
		t.Error("Copy of one that has room for none: nil")
	}
}

// P5.1 to P5.3: the chapter's example.
func TestExample(t *testing.T) {
	b := made(t, 2, 10)
	take(t, b, 0, true)
	take(t, b, 0, true)
	take(t, b, 0, false)
	left(t, b, 9, 0)
	left(t, b, 10, 1)
	take(t, b, 15, true)
	left(t, b, 19, 0)
	left(t, b, 20, 1)
	left(t, b, 3, 1)
	left(t, b, 30, 2)
}

// P5.1 to P5.3, R1, R3: one that is none tells nothing, and nothing is done to it.
func TestNone(t *testing.T) {
	for _, b := range []*Bucket{nil, {}, new(Bucket)} {
		for _, now := range []int{0, 1, -1, 1 << 40, math.MinInt, math.MaxInt, 0} {
			take(t, b, now, false)
			left(t, b, now, 0)
			if c := b.Copy(); c != nil {
				t.Errorf("Copy: %v", c)
			}
		}
		if b != nil && *b != (Bucket{}) {
			t.Errorf("something was done: %v", *b)
		}
	}
}

// P5.2: whatever is asked, it is as if it were brought on tick by tick.
func TestTickByTick(t *testing.T) {
	for capacity := 0; capacity <= api.MaxBudget; capacity++ {
		for _, refill := range []int{1, 2, 3, 7, 20} {
			walkTicks(t, made(t, capacity, refill), capacity, refill)
		}
	}
}

func walkTicks(t *testing.T, b *Bucket, capacity, refill int) {
	t.Helper()
	tokens, waited, tick := capacity, 0, 0
	seed := uint32(capacity*8191 + refill)
	for range 500 {
		seed = seed*1664525 + 1013904223
		now := tick + int(seed>>20%32) - 6
		for tick < now {
			tick++
			if tokens < capacity {
				waited++
			}
			if waited == refill {
				tokens++
				waited = 0
			}
		}
		if seed>>28%4 == 0 {
			left(t, b, now, tokens)
			continue
		}
		take(t, b, now, tokens > 0)
		tokens = max(tokens-1, 0)
	}
}

// P5.4: in any ticks at most the capacity, and a token for each refill ticks, are taken; one that is left alone becomes full.
func TestBounds(t *testing.T) {
	for capacity := 0; capacity <= api.MaxBudget; capacity++ {
		for _, refill := range []int{1, 2, 5, 13} {
			b := made(t, capacity, refill)
			holdTaken(t, takeOften(b, capacity, refill), capacity, refill)
			for n := range capacity + 1 {
				alone := b.Copy()
				at := 10000 + n*1000
				for range n {
					take(t, alone, at, true)
				}
				left(t, alone, at+capacity*refill, capacity)
			}
		}
	}
}

// takeOften tries at many ticks, in bursts and one by one, and tells those at which a token was taken.
func takeOften(b *Bucket, capacity, refill int) []int {
	var taken []int
	seed := uint32(capacity*127 + refill)
	for now := 0; now < 400; {
		seed = seed*1664525 + 1013904223
		for range seed >> 24 % 20 {
			if b.Take(now) {
				taken = append(taken, now)
			}
		}
		now += int(seed >> 16 % 8)
		if seed>>28 == 0 {
			now += capacity * refill
		}
	}
	return taken
}

func holdTaken(t *testing.T, taken []int, capacity, refill int) {
	t.Helper()
	for i, a := range taken {
		for j, z := range taken[i:] {
			if j+1 > capacity+(z-a)/refill {
				t.Errorf("capacity %d, refill %d: %d taken from %d to %d", capacity, refill, j+1, a, z)
				return
			}
		}
	}
}
