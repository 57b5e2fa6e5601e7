package windows

import (
	"math"
	"testing"

	"fairway/api"
)

func made(t *testing.T, capacity, last, done int) *Window {
	t.Helper()
	w, e := New(capacity, last, done)
	if w == nil || e != api.OK {
		t.Fatalf("New(%d, %d, %d): %v, error %d", capacity, last, done, w, int(e))
	}
	return w
}

// has holds a window's four indices, and what follows from them, against those wanted.
func has(t *testing.T, w *Window, last, done, sent, limit, offer, free int) {
	t.Helper()
	got := [6]int{w.Last(), w.Done(), w.Sent(), w.Limit(), w.Offer(), w.Free()}
	want := [6]int{last, done, sent, limit, offer, free}
	if got != want {
		t.Errorf("Last, Done, Sent, Limit, Offer, Free: %v, not %v", got, want)
	}
}

func push(t *testing.T, w *Window, want bool) {
	t.Helper()
	if got := w.Push(); got != want {
		t.Errorf("Push: %v, not %v", got, want)
	}
}

func ack(t *testing.T, w *Window, i int, want bool) {
	t.Helper()
	if got := w.Ack(i); got != want {
		t.Errorf("Ack(%d): %v, not %v", i, got, want)
	}
}

func next(t *testing.T, w *Window, want int, wantOK bool) {
	t.Helper()
	if n, ok := w.Next(); n != want || ok != wantOK {
		t.Errorf("Next: %d, %v, not %d, %v", n, ok, want, wantOK)
	}
}

// P4.1
func TestNew(t *testing.T) {
	has(t, made(t, 2, 3, 2), 3, 2, 3, 0, 4, 1)
	has(t, made(t, 1, 0, 0), 0, 0, 0, 0, 1, 1)
	has(t, made(t, 16, 7, 7), 7, 7, 7, 0, 23, 16)
	has(t, made(t, 16, 4096, 4096), 4096, 4096, 4096, 0, 4112, 0)
	has(t, made(t, 3, 4096, 0), 4096, 0, 4096, 0, 3, 0)
}

// P4.1
func TestNewRefuses(t *testing.T) {
	for _, x := range [][3]int{
		{0, 0, 0}, {-1, 0, 0}, {17, 0, 0}, {math.MinInt, 3, 2}, {math.MaxInt, 3, 2},
		{2, 0, -1}, {2, -1, -1}, {2, 3, math.MinInt},
		{2, 1, 2}, {2, -1, 0}, {2, math.MinInt, 0}, {2, 0, math.MaxInt},
		{2, 4097, 0}, {2, 4097, 4097}, {2, math.MaxInt, 0}, {2, math.MaxInt, math.MaxInt},
	} {
		if w, e := New(x[0], x[1], x[2]); w != nil || e != api.ErrArg {
			t.Errorf("New of %v: %v, error %d", x, w, int(e))
		}
	}
}

// P4.2
func TestPush(t *testing.T) {
	w := made(t, 2, 3, 2)
	push(t, w, true)
	has(t, w, 4, 2, 3, 0, 4, 0)
	push(t, w, false)
	has(t, w, 4, 2, 3, 0, 4, 0)
	ack(t, w, 4, true)
	has(t, w, 4, 4, 3, 0, 6, 2)
	push(t, w, true)
	push(t, w, true)
	push(t, w, false)
	has(t, w, 6, 4, 3, 0, 6, 0)
}

// P4.2: nothing is taken above MaxLog, even if fewer than the capacity are not done.
func TestPushUpToTheLog(t *testing.T) {
	w := made(t, 16, 4094, 4094)
	has(t, w, 4094, 4094, 4094, 0, 4110, 2)
	push(t, w, true)
	push(t, w, true)
	push(t, w, false)
	has(t, w, 4096, 4094, 4094, 0, 4110, 0)
	ack(t, w, 4096, true)
	push(t, w, false)
	has(t, w, 4096, 4096, 4094, 0, 4112, 0)
}

// P4.2: one that begins above its Offer is free of nothing, not of less.
func TestPushAboveTheOffer(t *testing.T) {
	w := made(t, 2, 9, 3)
	has(t, w, 9, 3, 9, 0, 5, 0)
	push(t, w, false)
	ack(t, w, 7, true)
	has(t, w, 9, 7, 9, 0, 9, 0)
	push(t, w, false)
	ack(t, w, 8, true)
	has(t, w, 9, 8, 9, 0, 10, 1)
	push(t, w, true)
}

// P4.3
func TestAck(t *testing.T) {
	w := made(t, 8, 9, 4)
	for _, i := range []int{4, 3, 0, -1, 10, math.MinInt, math.MaxInt} {
		ack(t, w, i, false)
		has(t, w, 9, 4, 9, 0, 12, 3)
	}
	ack(t, w, 5, true)
	has(t, w, 9, 5, 9, 0, 13, 4)
	ack(t, w, 5, false)
	ack(t, w, 9, true)
	has(t, w, 9, 9, 9, 0, 17, 8)
	ack(t, w, 9, false)
	ack(t, w, 10, false)
}

// P4.4
func TestGrant(t *testing.T) {
	w := made(t, 2, 3, 2)
	for _, x := range [][2]int{
		{-1, 0}, {math.MinInt, 0}, {0, 0}, {5, 5}, {4, 5}, {-7, 5}, {6, 6},
		{4111, 4111}, {4112, 4112}, {4113, 4112}, {math.MaxInt, 4112}, {1, 4112},
	} {
		w.Grant(x[0])
		has(t, w, 3, 2, 3, x[1], 4, 1)
	}
	above := made(t, 2, 3, 2)
	above.Grant(4113)
	has(t, above, 3, 2, 3, 4112, 4, 1)
}

// P4.4
func TestNext(t *testing.T) {
	w := made(t, 4, 3, 2)
	w.Grant(9)
	next(t, w, 0, false) // all was sent
	w.Back(0)
	w.Renew()
	push(t, w, true)
	push(t, w, true)
	next(t, w, 0, false) // nothing is granted
	w.Grant(3)
	next(t, w, 0, false)
	w.Grant(4)
	next(t, w, 4, true)
	next(t, w, 0, false)
	has(t, w, 5, 2, 4, 4, 6, 1)
	w.Grant(6)
	next(t, w, 5, true)
	next(t, w, 0, false)
	has(t, w, 5, 2, 5, 6, 6, 1)
}

// P4.5
func TestBack(t *testing.T) {
	for _, x := range [][2]int{{0, 0}, {-1, 0}, {math.MinInt, 0}, {1, 1}, {6, 6}, {7, 7}, {8, 7}, {math.MaxInt, 7}} {
		w := made(t, 9, 7, 2)
		w.Grant(5)
		w.Back(x[0])
		has(t, w, 7, 2, x[1], 5, 11, 4)
	}
	w := made(t, 9, 7, 2)
	w.Back(3)
	w.Back(6) // also on again, behind what was sent
	has(t, w, 7, 2, 6, 0, 11, 4)
}

// P4.5
func TestRenew(t *testing.T) {
	w := made(t, 9, 7, 2)
	push(t, w, true)
	w.Back(1)
	w.Grant(10)
	w.Renew()
	has(t, w, 8, 2, 8, 0, 11, 3)
	w.Grant(3)
	has(t, w, 8, 2, 8, 3, 11, 3)
}

// P4.5: two that were one go on by themselves.
func TestCopy(t *testing.T) {
	w := made(t, 4, 6, 3)
	w.Grant(6)
	w.Back(4)
	c := w.Copy()
	has(t, c, 6, 3, 4, 6, 7, 1)
	push(t, w, true)
	ack(t, w, 5, true)
	next(t, w, 5, true)
	w.Grant(20)
	has(t, c, 6, 3, 4, 6, 7, 1)
	c.Renew()
	ack(t, c, 4, true)
	push(t, c, true)
	push(t, c, true)
	has(t, c, 8, 4, 6, 0, 8, 0)
	has(t, w, 7, 5, 5, 20, 9, 2)
}

// P4.1 to P4.5: the chapter's example.
func TestExample(t *testing.T) {
	w := made(t, 2, 3, 2)
	has(t, w, 3, 2, 3, 0, 4, 1)
	push(t, w, true)
	push(t, w, false)
	ack(t, w, 5, false)
	ack(t, w, 2, false)
	ack(t, w, 4, true)
	next(t, w, 0, false)
	w.Grant(4)
	next(t, w, 4, true)
	next(t, w, 0, false)
	w.Back(2)
	next(t, w, 3, true)
}

// P4.1 to P4.5, R1, R3: one that is none tells nothing, and nothing is done to it.
func TestNone(t *testing.T) {
	for _, w := range []*Window{nil, {}, new(Window)} {
		for range 2 {
			has(t, w, 0, 0, 0, 0, 0, 0)
			push(t, w, false)
			ack(t, w, 0, false)
			ack(t, w, 1, false)
			w.Grant(5)
			next(t, w, 0, false)
			w.Back(3)
			w.Renew()
			if c := w.Copy(); c != nil {
				t.Errorf("Copy: %v", c)
			}
		}
		if w != nil && *w != (Window{}) {
			t.Errorf("something was done: %v", *w)
		}
	}
}

// P4.6: whatever is asked, in any order, from any beginning.
func TestBounds(t *testing.T) {
	for capacity := 1; capacity <= api.MaxWindow; capacity++ {
		for _, last := range []int{0, 1, 20, 4085, 4096} {
			walk(t, made(t, capacity, last, last-last%7), capacity)
		}
	}
}

func walk(t *testing.T, w *Window, capacity int) {
	t.Helper()
	seed := uint32(capacity*8191 + w.Last())
	for range 800 {
		seed = seed*1664525 + 1013904223
		near := w.Done() + int(seed>>16%32) - 4
		switch seed >> 28 % 8 {
		case 0, 1, 2:
			room := w.Last()-w.Done() < capacity && w.Last() < api.MaxLog
			push(t, w, room)
		case 3:
			ack(t, w, near, near > w.Done() && near <= w.Last())
		case 4:
			w.Grant(near)
		case 5:
			w.Back(near)
		case 6:
			if n, ok := w.Next(); ok && (n > w.Limit() || n > w.Last() || n != w.Sent()) {
				t.Fatalf("Next: %d above Limit %d or Last %d", n, w.Limit(), w.Last())
			}
		case 7:
			if seed>>24%4 == 0 {
				w.Renew()
			}
		}
		if w.Done() > w.Last() || w.Sent() > w.Last() || w.Sent() < 0 || w.Last() > api.MaxLog {
			t.Fatalf("Last %d, Done %d, Sent %d", w.Last(), w.Done(), w.Sent())
		}
	}
}
