package counts

import (
	"math"
	"slices"
	"sync"
	"testing"

	"fairway/api"
)

const top = 1 << 62

func made(t *testing.T, n int) *Counts {
	t.Helper()
	c, e := New(n)
	if c == nil || e != api.OK {
		t.Fatalf("New(%d): %v, error %d", n, c, int(e))
	}
	return c
}

func add(t *testing.T, c *Counts, i int, by, want int64) {
	t.Helper()
	if got, e := c.Add(i, by); got != want || e != api.OK {
		t.Errorf("Add(%d, %d): %d, error %d; not %d", i, by, got, int(e), want)
	}
}

func refuse(t *testing.T, c *Counts, i int, by int64, want api.Errno) {
	t.Helper()
	if got, e := c.Add(i, by); got != 0 || e != want {
		t.Errorf("Add(%d, %d): %d, error %d; not 0, error %d", i, by, got, int(e), int(want))
	}
}

// all holds them against what they should be, by Get and by List.
func all(t *testing.T, c *Counts, want ...int64) {
	t.Helper()
	if got := c.List(); !slices.Equal(got, want) {
		t.Errorf("List: %v, not %v", got, want)
	}
	for i, w := range want {
		if got := c.Get(i); got != w {
			t.Errorf("Get(%d): %d, not %d", i, got, w)
		}
	}
}

// P7.1: so many, each 0, of each number that may be.
func TestNew(t *testing.T) {
	for n := 1; n <= 64; n++ {
		c := made(t, n)
		all(t, c, make([]int64, n)...)
		add(t, c, n-1, 1, 1)
		add(t, c, 0, 0, c.Get(0))
		refuse(t, c, n, 1, api.ErrNone)
	}
}

// P7.1
func TestNewRefuses(t *testing.T) {
	for _, n := range []int{0, -1, -2, -64, 65, 66, 128, 1 << 32, 1<<32 + 1, -1 << 32, math.MinInt, math.MaxInt} {
		if c, e := New(n); c != nil || e != api.ErrArg {
			t.Errorf("New(%d): %v, error %d", n, c, int(e))
		}
	}
}

// P7.2: what it is then, and no other one is changed.
func TestAdd(t *testing.T) {
	c := made(t, 3)
	add(t, c, 1, 5, 5)
	add(t, c, 1, 0, 5)
	add(t, c, 1, 7, 12)
	add(t, c, 0, 1, 1)
	add(t, c, 2, 0, 0)
	add(t, c, 2, 1<<32, 1<<32)
	add(t, c, 2, 1<<32, 1<<33)
	all(t, c, 1, 12, 1<<33)
}

// P7.2: it goes up to 2^62, and no further.
func TestAddUpToTheMost(t *testing.T) {
	for _, x := range []struct{ was, by, want int64 }{
		{0, top - 1, top - 1}, {0, top, top}, {0, top + 1, top}, {0, math.MaxInt64, top},
		{1, top - 2, top - 1}, {1, top - 1, top}, {1, top, top}, {1, math.MaxInt64, top},
		{top - 2, 1, top - 1}, {top - 2, 2, top}, {top - 2, 3, top},
		{top - 1, 0, top - 1}, {top - 1, 1, top}, {top - 1, 2, top}, {top - 1, top, top}, {top - 1, top + 1, top}, {top - 1, math.MaxInt64, top},
		{top, 0, top}, {top, 1, top}, {top, top - 1, top}, {top, top, top}, {top, math.MaxInt64 - 1, top}, {top, math.MaxInt64, top},
		{top / 2, top / 2, top}, {top / 2, top/2 - 1, top - 1}, {top / 2, top/2 + 1, top},
	} {
		c := made(t, 2)
		add(t, c, 1, x.was, x.was)
		add(t, c, 1, x.by, x.want)
		all(t, c, 0, x.want)
		add(t, c, 1, math.MaxInt64, top)
		add(t, c, 1, 0, top)
		all(t, c, 0, top)
	}
}

// P7.2: nothing is taken off, and what is refused changes nothing.
func TestAddRefusesBelowZero(t *testing.T) {
	c := made(t, 2)
	add(t, c, 0, 9, 9)
	for _, by := range []int64{-1, -2, -9, -10, -top, math.MinInt64 + 1, math.MinInt64} {
		refuse(t, c, 0, by, api.ErrArg)
		refuse(t, c, 1, by, api.ErrArg)
		all(t, c, 9, 0)
	}
}

// P7.2: there is no such counter.
func TestAddRefusesNone(t *testing.T) {
	for _, n := range []int{1, 2, 5, 64} {
		c := made(t, n)
		for _, i := range []int{-1, -2, -n, -64, n, n + 1, 64, 65, 1 << 32, -1 << 32, math.MinInt, math.MaxInt} {
			for _, by := range []int64{0, 1, top, math.MaxInt64} {
				refuse(t, c, i, by, api.ErrNone)
			}
		}
		all(t, c, make([]int64, n)...)
	}
}

// P7.2, R5: the error that is named first is told where both could be.
func TestAddRefusesInOrder(t *testing.T) {
	c := made(t, 2)
	for _, i := range []int{-1, 2, math.MinInt, math.MaxInt} {
		refuse(t, c, i, -1, api.ErrArg)
		refuse(t, c, i, math.MinInt64, api.ErrArg)
		refuse(t, c, i, 0, api.ErrNone)
	}
	all(t, c, 0, 0)
}

// P7.2: what other goroutines add is never lost.
func TestAddBySeveral(t *testing.T) {
	c := made(t, 2)
	var w sync.WaitGroup
	for n := range int64(8) {
		w.Go(func() {
			for range 2000 {
				c.Add(1, n+1)
				c.Add(0, 1)
				c.Add(1, -1)
				c.Add(2, 1)
			}
		})
	}
	w.Wait()
	all(t, c, 8*2000, 36*2000)
}

// P7.2: each of those who add one by one is told another number, up to the last one.
func TestAddTellsEachItsOwn(t *testing.T) {
	c := made(t, 1)
	var w sync.WaitGroup
	told := make([][]int64, 8)
	for n := range told {
		w.Go(func() {
			for range 1000 {
				now, _ := c.Add(0, 1)
				told[n] = append(told[n], now)
			}
		})
	}
	w.Wait()
	var list []int64
	for _, one := range told {
		if !slices.IsSorted(one) {
			t.Error("what one was told does not rise")
		}
		list = append(list, one...)
	}
	slices.Sort(list)
	for i, now := range list {
		if now != int64(i)+1 {
			t.Fatalf("%d is told as the number %d", now, i+1)
		}
	}
	all(t, c, 8000)
}

// P7.2: nor do several bring it above 2^62.
func TestAddBySeveralUpToTheMost(t *testing.T) {
	c := made(t, 1)
	add(t, c, 0, top-500, top-500)
	var w sync.WaitGroup
	for range 8 {
		w.Go(func() {
			for range 100 {
				if now, e := c.Add(0, 3); now > top || now <= top-500 || e != api.OK {
					t.Errorf("Add: %d, error %d", now, int(e))
				}
			}
		})
	}
	w.Wait()
	all(t, c, top)
}

// P7.3: of a counter that is none, Get is 0.
func TestGetOfNone(t *testing.T) {
	for _, n := range []int{1, 3, 64} {
		c := made(t, n)
		for i := range n {
			add(t, c, i, int64(i)+1, int64(i)+1)
		}
		for _, i := range []int{-1, -2, -n, n, n + 1, 64, 65, 1 << 32, math.MinInt, math.MaxInt} {
			if got := c.Get(i); got != 0 {
				t.Errorf("Get(%d) of %d: %d", i, n, got)
			}
		}
	}
}

// P7.3, R4: a list that was told is the caller's own.
func TestListIsTheCallers(t *testing.T) {
	c := made(t, 3)
	add(t, c, 1, 4, 4)
	list := c.List()
	clear(list)
	all(t, c, 0, 4, 0)
	list = c.List()
	add(t, c, 1, 1, 5)
	add(t, c, 2, 1, 1)
	if !slices.Equal(list, []int64{0, 4, 0}) {
		t.Errorf("a list that was told ahead became %v", list)
	}
	list = append(list, 9)
	all(t, c, 0, 5, 1)
	refuse(t, c, 3, 1, api.ErrNone)
}

// P7.3: two that were one go on by themselves.
func TestCopy(t *testing.T) {
	for _, n := range []int{1, 2, 64} {
		c := made(t, n)
		add(t, c, n-1, top-1, top-1)
		d := c.Copy()
		if d == nil || d == c {
			t.Fatalf("Copy: %p of %p", d, c)
		}
		want := make([]int64, n)
		want[n-1] = top - 1
		all(t, d, want...)
		refuse(t, d, n, 1, api.ErrNone)
		refuse(t, d, 0, -1, api.ErrArg)
		add(t, d, n-1, 5, top)
		all(t, c, want...)
		add(t, c, 0, 0, want[0])
		add(t, c, n-1, 1, top)
		add(t, d.Copy(), n-1, 1, top)
	}
	c := made(t, 2)
	add(t, c, 0, 1, 1)
	d := c.Copy()
	add(t, c, 0, 10, 11)
	add(t, d, 1, 20, 20)
	all(t, c, 11, 0)
	all(t, d, 1, 20)
}

// P7.4: in which order is added makes no difference in the end, also where the most is reached.
func TestOrder(t *testing.T) {
	for _, by := range [][]int64{
		{1, 2, 3, 4}, {0, 0, 5, 1}, {top, 1, top, 0}, {top - 1, 1, 1, 0}, {top - 3, 1, 1, 0},
		{math.MaxInt64, 1, math.MaxInt64, 7}, {top / 2, top / 2, top / 2, 3}, {top / 3, top / 3, top / 3, 0},
	} {
		var first []int64
		for _, order := range orders(len(by)) {
			c := made(t, 2)
			for _, k := range order {
				c.Add(k%2, by[k])
				c.Add(0, by[k])
			}
			if first == nil {
				first = c.List()
			}
			all(t, c, first...)
		}
	}
}

// orders is each order of so many.
func orders(n int) [][]int {
	if n == 0 {
		return [][]int{nil}
	}
	var list [][]int
	for _, order := range orders(n - 1) {
		for at := range n {
			list = append(list, slices.Insert(slices.Clone(order), at, n-1))
		}
	}
	return list
}

// P7.2 to P7.4: whatever is added, it is as if it were summed up, up to the most.
func TestSums(t *testing.T) {
	for n := 1; n <= 64; n += 9 {
		walkSums(t, made(t, n), n)
	}
}

func walkSums(t *testing.T, c *Counts, n int) {
	t.Helper()
	want := make([]int64, n)
	seed := uint32(n)
	for range 2000 {
		seed = seed*1664525 + 1013904223
		i := int(seed>>24)%(n+2) - 1
		by := int64(seed>>8%4096) << (seed >> 20 % 60)
		if by < 0 {
			refuse(t, c, i, by, api.ErrArg)
			continue
		}
		if i < 0 || i >= n {
			refuse(t, c, i, by, api.ErrNone)
			continue
		}
		// As an unsigned number the sum of two is never more than it holds.
		want[i] = int64(min(uint64(want[i])+uint64(by), top))
		add(t, c, i, by, want[i])
	}
	all(t, c, want...)
	all(t, c.Copy(), want...)
}

// P7.1 to P7.3: the chapter's example.
func TestExample(t *testing.T) {
	c := made(t, 2)
	add(t, c, 1, 5, 5)
	add(t, c, 1, 1<<62, 1<<62)
	refuse(t, c, 2, 1, api.ErrNone)
	refuse(t, c, 0, -1, api.ErrArg)
	all(t, c, 0, 1<<62)
}

// P7.1 to P7.3, R1, R3: those that are none tell nothing, and nothing is done to them.
func TestNone(t *testing.T) {
	for _, c := range []*Counts{nil, {}, new(Counts)} {
		for _, i := range []int{0, 1, -1, 63, 64, math.MinInt, math.MaxInt} {
			for _, by := range []int64{0, 1, -1, top, math.MinInt64, math.MaxInt64} {
				refuse(t, c, i, by, api.ErrNil)
			}
			if got := c.Get(i); got != 0 {
				t.Errorf("Get(%d): %d", i, got)
			}
		}
		if list := c.List(); list != nil {
			t.Errorf("List: %v", list)
		}
		if d := c.Copy(); d != nil {
			t.Errorf("Copy: %v", d)
		}
		if c != nil && c.list != nil {
			t.Errorf("something was done: %v", c.List())
		}
	}
}
