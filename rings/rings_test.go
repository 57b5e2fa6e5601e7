package rings

import (
	"math"
	"reflect"
	"slices"
	"strconv"
	"testing"

	"fairway/api"
)

// full is a frame of which no field is zero, other ones for other numbers.
func full(n int) api.Frame {
	text := strconv.Itoa(n)
	return api.Frame{
		Kind: n + 1, Epoch: n + 2, Client: n + 3, Seq: n + 4, Try: n + 5, Class: n + 6, Deadline: n + 7,
		Op:     api.Op{Kind: n + 8, Key: "k" + text, Value: "v" + text, Version: n + 9},
		Result: api.Result{Code: n + 10, Value: "r" + text, Version: n + 11, At: n + 12},
		Reason: n + 13,
		Entry:  api.Entry{Index: n + 14, Client: n + 15, Seq: n + 16, Op: api.Op{Kind: n + 17, Key: "e" + text, Value: "w" + text, Version: n + 18}},
		Chain:  api.Chain{Epoch: n + 19, Members: members(n), Drain: n + 20},
		Index:  n + 21, Grant: n + 22, Have: n + 23,
	}
}

func members(n int) []api.Member {
	return []api.Member{{Node: n + 24, Since: n + 25}, {Node: n + 26, Since: n + 27}}
}

func made(t *testing.T, capacity int) *Ring {
	t.Helper()
	r, e := New(capacity)
	if r == nil || e != api.OK {
		t.Fatalf("New(%d): %v, error %d", capacity, r, int(e))
	}
	return r
}

// filled is a ring with the frames of these numbers, whose first one stands at that place.
func filled(t *testing.T, capacity, first int, numbers ...int) *Ring {
	t.Helper()
	r := made(t, capacity)
	for range first {
		if !r.Push(full(-1)) {
			t.Fatal("Push into an empty ring: false")
		}
		r.Pop()
	}
	for _, n := range numbers {
		if !r.Push(full(n)) {
			t.Fatalf("Push of %d: false", n)
		}
	}
	return r
}

// told holds what was told of a frame against the one of that number.
func told(t *testing.T, what string, f api.Frame, ok bool, n int) {
	t.Helper()
	if !ok || !reflect.DeepEqual(f, full(n)) {
		t.Errorf("%s: %v, %+v, not that of %d", what, ok, f, n)
	}
}

// nothing asks that no frame was told.
func nothing(t *testing.T, what string, f api.Frame, ok bool) {
	t.Helper()
	if ok || !reflect.DeepEqual(f, api.Frame{}) {
		t.Errorf("%s: %v, %+v, not nothing", what, ok, f)
	}
}

// has holds all that a ring tells without a change against the frames of these numbers.
func has(t *testing.T, r *Ring, capacity int, numbers ...int) {
	t.Helper()
	if r.Len() != len(numbers) || r.Cap() != capacity {
		t.Fatalf("Len, Cap: %d, %d, not %d, %d", r.Len(), r.Cap(), len(numbers), capacity)
	}
	for i, n := range numbers {
		f, ok := r.At(i)
		told(t, "At "+strconv.Itoa(i), f, ok, n)
	}
	f, ok := r.Front()
	if len(numbers) > 0 {
		told(t, "Front", f, ok, numbers[0])
	} else {
		nothing(t, "Front", f, ok)
	}
	for _, i := range []int{-1, -2, -capacity, math.MinInt, len(numbers), len(numbers) + 1, capacity, capacity + 1, 2 * capacity, math.MaxInt} {
		f, ok := r.At(i)
		nothing(t, "At "+strconv.Itoa(i), f, ok)
	}
}

// P3.1: the capacities that may be, and those that may not.
func TestNew(t *testing.T) {
	for capacity := 1; capacity <= 64; capacity++ {
		has(t, made(t, capacity), capacity)
	}
	for _, capacity := range []int{0, -1, -64, 65, 66, 128, math.MaxInt, math.MinInt} {
		if r, e := New(capacity); r != nil || e != api.ErrArg {
			t.Errorf("New(%d): %v, error %d", capacity, r, int(e))
		}
	}
}

// P3.1: Len goes with what is there, Cap stays.
func TestLenCap(t *testing.T) {
	r := made(t, 3)
	for n := range 3 {
		r.Push(full(n))
		if r.Len() != n+1 || r.Cap() != 3 {
			t.Errorf("behind Push %d: Len %d, Cap %d", n, r.Len(), r.Cap())
		}
	}
	r.Push(full(3))
	r.Front()
	r.At(1)
	if r.Len() != 3 || r.Cap() != 3 {
		t.Errorf("full: Len %d, Cap %d", r.Len(), r.Cap())
	}
	for n := 2; n >= 0; n-- {
		r.Pop()
		if r.Len() != n || r.Cap() != 3 {
			t.Errorf("behind a Pop: Len %d, Cap %d, not %d, 3", r.Len(), r.Cap(), n)
		}
	}
	r.Pop()
	if r.Len() != 0 {
		t.Errorf("behind a Pop of nothing: Len %d", r.Len())
	}
}

// A ring that is nil, or that New did not make.
func TestNone(t *testing.T) {
	for _, r := range []*Ring{nil, {}, new(Ring)} {
		for range 2 {
			if r.Push(full(1)) {
				t.Error("Push: true")
			}
			f, ok := r.Pop()
			nothing(t, "Pop", f, ok)
			r.Clear()
			has(t, r, 0)
			if c := r.Copy(); c != nil {
				t.Errorf("Copy: %v", c)
			}
		}
	}
}

// P3.2: the chapter's example.
func TestExample(t *testing.T) {
	const a, b, c = 1, 2, 3
	r := made(t, 2)
	for _, x := range []struct {
		n    int
		want bool
	}{{a, true}, {b, true}, {c, false}} {
		if r.Push(full(x.n)) != x.want {
			t.Errorf("Push of %d: not %v", x.n, x.want)
		}
	}
	f, ok := r.Pop()
	told(t, "Pop", f, ok, a)
	if !r.Push(full(c)) {
		t.Error("Push c")
	}
	has(t, r, 2, b, c)
}

// P3.2: a full ring takes no more, at whatever place it begins, and stays as it was.
func TestPushFull(t *testing.T) {
	for first := range 7 {
		r := filled(t, 3, first, 1, 2, 3)
		if r.Push(full(4)) || r.Push(api.Frame{}) {
			t.Error("Push into a full ring: true")
		}
		has(t, r, 3, 1, 2, 3)
	}
}

// P3.2: Pop takes out the first one, and no other one; of an empty ring nothing is told.
func TestPop(t *testing.T) {
	for first := range 7 {
		r := filled(t, 3, first, 1, 2, 3)
		for n := 1; n <= 3; n++ {
			f, ok := r.Pop()
			told(t, "Pop", f, ok, n)
			has(t, r, 3, []int{1, 2, 3}[n:]...)
		}
		for range 2 {
			f, ok := r.Pop()
			nothing(t, "Pop of an empty ring", f, ok)
		}
		if !r.Push(full(4)) {
			t.Error("Push behind a Pop of nothing: false")
		}
		has(t, r, 3, 4)
	}
}

// P3.2: Front and At leave all as it is.
func TestFrontAtStay(t *testing.T) {
	r := filled(t, 4, 3, 1, 2, 3)
	for range 3 {
		has(t, r, 4, 1, 2, 3)
	}
}

// P3.2: a frame that is zero is one, and is not taken for none.
func TestZeroFrame(t *testing.T) {
	r := made(t, 2)
	if !r.Push(api.Frame{}) || r.Len() != 1 {
		t.Error("Push of a zero frame")
	}
	if f, ok := r.At(0); !ok || !reflect.DeepEqual(f, api.Frame{}) {
		t.Errorf("At: %v, %+v", ok, f)
	}
	if f, ok := r.Front(); !ok || !reflect.DeepEqual(f, api.Frame{}) {
		t.Errorf("Front: %v, %+v", ok, f)
	}
	if f, ok := r.Pop(); !ok || !reflect.DeepEqual(f, api.Frame{}) || r.Len() != 0 {
		t.Errorf("Pop: %v, %+v", ok, f)
	}
}

// P3.3: none are there any more, wherever the ring began, and it goes on.
func TestClear(t *testing.T) {
	for first := range 4 {
		for count := range 4 {
			r := filled(t, 3, first, []int{1, 2, 3}[:count]...)
			r.Clear()
			has(t, r, 3)
			f, ok := r.Pop()
			nothing(t, "Pop behind Clear", f, ok)
			for n := 5; n < 8; n++ {
				if !r.Push(full(n)) {
					t.Error("Push behind Clear: false")
				}
			}
			if r.Push(full(8)) {
				t.Error("Push into a full ring behind Clear: true")
			}
			has(t, r, 3, 5, 6, 7)
		}
	}
}

// P3.3, and that places are emptied: nothing is kept of what is not there.
func TestPlacesAreEmptied(t *testing.T) {
	r := filled(t, 3, 2, 1, 2, 3)
	r.Pop()
	r.Pop()
	left := 0
	for _, f := range r.places {
		if !reflect.DeepEqual(f, api.Frame{}) {
			left++
		}
	}
	if left != 1 {
		t.Errorf("of one frame %d places are not empty", left)
	}
	r.Clear()
	for i, f := range r.places {
		if !reflect.DeepEqual(f, api.Frame{}) {
			t.Errorf("behind Clear the place %d has %+v", i, f)
		}
	}
}

// P3.3: a copy has the same, and each of the two goes on by itself.
func TestCopy(t *testing.T) {
	for first := range 4 {
		for count := range 4 {
			numbers := []int{1, 2, 3}[:count]
			r := filled(t, 3, first, numbers...)
			c := r.Copy()
			has(t, c, 3, numbers...)
			has(t, c.Copy(), 3, numbers...)
			c.Pop()
			c.Push(full(7))
			has(t, r, 3, numbers...)
			behind := append(slices.Clone(numbers[min(1, count):]), 7)
			has(t, c, 3, behind...)
			r.Clear()
			has(t, c, 3, behind...)
			for n := range 3 {
				r.Push(full(20 + n))
			}
			has(t, c, 3, behind...)
			c.Clear()
			has(t, r, 3, 20, 21, 22)
		}
	}
}

// P3.3: who hands a frame in may change its Members afterwards.
func TestMembersAreCopiedWhenTheyCome(t *testing.T) {
	r := made(t, 2)
	f := full(1)
	r.Push(f)
	clear(f.Chain.Members)
	has(t, r, 2, 1)

	// A list with room behind it is not written to, either.
	f = full(2)
	f.Chain.Members = append(make([]api.Member, 0, 9), f.Chain.Members...)
	r.Push(f)
	g, _ := r.At(1)
	g.Chain.Members = append(g.Chain.Members, api.Member{Node: 5})
	if m := f.Chain.Members[:3]; m[2] != (api.Member{}) {
		t.Errorf("what was handed in has %v behind it", m[2])
	}
	if !reflect.DeepEqual(f.Chain.Members, members(2)) {
		t.Errorf("what was handed in is another one: %v", f.Chain.Members)
	}
	has(t, r, 2, 1, 2)
}

// P3.3: who is told a frame may change its Members; neither ring of two that are copies has others then.
func TestMembersAreCopiedWhenTheyAreTold(t *testing.T) {
	spoil := func(f api.Frame, ok bool) {
		t.Helper()
		if !ok || len(f.Chain.Members) != 2 {
			t.Fatalf("%v, %+v", ok, f)
		}
		clear(f.Chain.Members)
	}
	r := filled(t, 3, 2, 1, 2)
	spoil(r.Front())
	spoil(r.At(0))
	spoil(r.At(1))
	has(t, r, 3, 1, 2)
	c := r.Copy()
	spoil(r.Front())
	spoil(r.At(1))
	has(t, c, 3, 1, 2)
	spoil(c.Front())
	spoil(c.At(1))
	has(t, r, 3, 1, 2)
	spoil(r.Pop())
	has(t, c, 3, 1, 2)
	spoil(c.Pop())
	has(t, r, 3, 2)
	has(t, c, 3, 2)
}

// P3.3: without Members, and with many of them.
func TestMembersOfAnyNumber(t *testing.T) {
	for _, m := range [][]api.Member{nil, {}, make([]api.Member, 1), slices.Repeat(members(3), 500)} {
		r := made(t, 1)
		r.Push(api.Frame{Chain: api.Chain{Members: m}})
		if f, ok := r.Copy().Pop(); !ok || !slices.Equal(f.Chain.Members, m) {
			t.Errorf("of %d Members %d are told", len(m), len(f.Chain.Members))
		}
	}
}

// P3.4: held against a plain list, at each capacity, gone around many times, with other shares of Push and Pop.
func TestOrder(t *testing.T) {
	for capacity := 1; capacity <= 64; capacity++ {
		r := made(t, capacity)
		var want []int
		state := uint32(capacity)
		in, out := 0, 0
		for step := range 40 * capacity {
			state = state*1664525 + 1013904223
			// The shares turn about, so that the ring is full at times, and empty at times.
			pushes := uint32(1 + 6*(step/(3*capacity)%2))
			if state>>16%8 < pushes {
				ok := r.Push(api.Frame{Seq: in, Chain: api.Chain{Members: []api.Member{{Node: in}}}})
				if ok != (len(want) < capacity) {
					t.Fatalf("capacity %d, Push with %d there: %v", capacity, len(want), ok)
				}
				if ok {
					want = append(want, in)
					in++
				}
			} else {
				f, ok := r.Pop()
				if ok != (len(want) > 0) {
					t.Fatalf("capacity %d, Pop with %d there: %v", capacity, len(want), ok)
				}
				if ok && (f.Seq != want[0] || f.Seq != out || f.Chain.Members[0].Node != out) {
					t.Fatalf("capacity %d, Pop: %d, not %d", capacity, f.Seq, want[0])
				}
				if ok {
					want = want[1:]
					out++
				}
			}
			sameOrder(t, r, want)
		}
		if out <= 3*capacity {
			t.Errorf("capacity %d: only %d went through", capacity, out)
		}
	}
}

func sameOrder(t *testing.T, r *Ring, want []int) {
	t.Helper()
	if r.Len() != len(want) {
		t.Fatalf("Len: %d, not %d", r.Len(), len(want))
	}
	for i, n := range want {
		if f, ok := r.At(i); !ok || f.Seq != n {
			t.Fatalf("At %d: %v, %d, not %d", i, ok, f.Seq, n)
		}
	}
	if f, ok := r.Front(); ok != (len(want) > 0) || ok && f.Seq != want[0] {
		t.Fatalf("Front: %v, %d", ok, f.Seq)
	}
}
