package nums

import (
	"math"
	"math/big"
	"testing"
)

const (
	most  = math.MaxInt
	least = math.MinInt
)

// numbers are small ones, the ends, and those near where sums and products leave what an int holds.
func numbers() []int {
	l := []int{least, least + 1, least + 2, most, most - 1, most - 2}
	for n := -9; n <= 9; n++ {
		l = append(l, n)
	}
	roots := []int{3037000499, 3037000500, 1 << 31, 1 << 32, 1 << 61, 1 << 62, most / 2, most / 3}
	for _, n := range roots {
		l = append(l, n-1, n, n+1, -n-1, -n, -n+1)
	}
	return l
}

func within(n *big.Int) int {
	switch {
	case n.Cmp(big.NewInt(most)) > 0:
		return most
	case n.Cmp(big.NewInt(least)) < 0:
		return least
	}
	return int(n.Int64())
}

func wide(n int) *big.Int { return big.NewInt(int64(n)) }

// P1.1, by numbers without bounds, over all pairs.
func TestAddSubMulAgainstWide(t *testing.T) {
	for _, a := range numbers() {
		for _, b := range numbers() {
			if n, want := Add(a, b), within(new(big.Int).Add(wide(a), wide(b))); n != want {
				t.Errorf("Add(%d, %d): %d, not %d", a, b, n, want)
			}
			if n, want := Sub(a, b), within(new(big.Int).Sub(wide(a), wide(b))); n != want {
				t.Errorf("Sub(%d, %d): %d, not %d", a, b, n, want)
			}
			if n, want := Mul(a, b), within(new(big.Int).Mul(wide(a), wide(b))); n != want {
				t.Errorf("Mul(%d, %d): %d, not %d", a, b, n, want)
			}
		}
	}
}

type two struct{ a, b, want int }

func check(t *testing.T, name string, f func(a, b int) int, l []two) {
	t.Helper()
	for _, x := range l {
		if n := f(x.a, x.b); n != x.want {
			t.Errorf("%s(%d, %d): %d, not %d", name, x.a, x.b, n, x.want)
		}
	}
}

// P1.1, written out: ordinary numbers, then both ends.
func TestAddSubMul(t *testing.T) {
	check(t, "Add", Add, []two{
		{2, 3, 5}, {-2, 3, 1}, {0, 0, 0},
		{most, 1, most}, {1, most, most}, {most, most, most}, {most - 1, 1, most}, {most, 0, most},
		{least, -1, least}, {-1, least, least}, {least, least, least}, {least + 1, -1, least},
		{most, least, -1}, {least, most, -1},
	})
	check(t, "Sub", Sub, []two{
		{2, 3, -1}, {-2, -3, 1}, {0, 0, 0},
		{least, 1, least}, {least, most, least}, {least + 1, 1, least}, {-2, most, least},
		{most, -1, most}, {0, least, most}, {most, least, most}, {-1, least, most},
		{-1, most, least}, {least, least, 0}, {most, most, 0},
	})
	check(t, "Mul", Mul, []two{
		{2, 3, 6}, {-2, 3, -6}, {-2, -3, 6},
		{0, most, 0}, {least, 0, 0}, {1, least, least}, {most, -1, -most},
		{least, -1, most}, {-1, least, most}, {least, least, most}, {most, most, most},
		{least, 2, least}, {most, -2, least}, {most, least, least}, {least, most, least},
		{1 << 31, 1 << 32, most}, {-1 << 31, 1 << 32, least}, {1 << 31, 1 << 31, 1 << 62},
	})
}

// P1.2: within, at the bounds, beyond them, and with hi below lo.
func TestClamp(t *testing.T) {
	for _, x := range []struct{ n, lo, hi, want int }{
		{2, 1, 3, 2}, {1, 1, 3, 1}, {3, 1, 3, 3}, {0, 1, 3, 1}, {5, 1, 3, 3}, {4, 4, 4, 4},
		{5, 7, 3, 7}, {9, 7, 3, 7}, {1, 7, 3, 7}, {0, most, least, most}, {least, most, least, most},
		{most, least, 0, 0}, {least, least, 0, least}, {least, 0, most, 0}, {most, least, most, most},
		{-5, -3, -1, -3}, {0, -3, -1, -1},
	} {
		if n := Clamp(x.n, x.lo, x.hi); n != x.want {
			t.Errorf("Clamp(%d, %d, %d): %d, not %d", x.n, x.lo, x.hi, n, x.want)
		}
	}
}

// P1.3: ordinary numbers, the ends, and numbers that none is told for.
func TestCeilRing(t *testing.T) {
	check(t, "Ceil", Ceil, []two{
		{7, 2, 4}, {8, 2, 4}, {1, 2, 1}, {0, 5, 0}, {5, 1, 5}, {3, 7, 1},
		{1, most, 1}, {most, 1, most}, {most, 2, most/2 + 1}, {most, most, 1}, {most - 1, most, 1},
		{7, 0, 0}, {7, -1, 0}, {7, least, 0}, {-1, 5, 0}, {least, 1, 0}, {least, -1, 0}, {-8, -2, 0},
	})
	check(t, "Ring", Ring, []two{
		{-1, 5, 4}, {12, 5, 2}, {0, 5, 0}, {5, 5, 0}, {4, 5, 4}, {-5, 5, 0}, {-6, 5, 4}, {7, 1, 0},
		{least, 3, 1}, {least, 1, 0}, {least, most, most - 1}, {most, most, 0}, {most - 1, most, most - 1}, {-1, most, most - 1},
		{3, 0, 0}, {3, -5, 0}, {-3, -5, 0}, {3, least, 0}, {least, -1, 0},
	})
}

// P1.4: sums in any order, and products of sums, where all stays within.
func TestSumsAndProducts(t *testing.T) {
	l := []int{0, 1, -1, 2, -3, 7, 1 << 20, -1 << 20, 1<<29 + 5, -1<<29 - 5}
	for _, a := range l {
		for _, b := range l {
			if Add(a, b) != Add(b, a) || Mul(a, b) != Mul(b, a) || Sub(a, b) != Add(a, Mul(b, -1)) {
				t.Error("the order makes a difference:", a, b)
			}
			for _, c := range l {
				if Add(Add(a, b), c) != Add(a, Add(b, c)) {
					t.Error("the order of a sum makes a difference:", a, b, c)
				}
				if Mul(Add(a, b), c) != Add(Mul(a, c), Mul(b, c)) {
					t.Error("a product of a sum is another one:", a, b, c)
				}
			}
		}
	}
}

// P1.4: the least number whose product with b is not below a.
func TestCeilIsTheLeast(t *testing.T) {
	for _, a := range numbers() {
		for _, b := range numbers() {
			if a < 0 || b < 1 {
				continue
			}
			n := wide(Ceil(a, b))
			if n.Sign() < 0 || new(big.Int).Mul(n, wide(b)).Cmp(wide(a)) < 0 {
				t.Errorf("Ceil(%d, %d) is too little: %d", a, b, n)
			}
			n.Sub(n, big.NewInt(1))
			if n.Sign() >= 0 && new(big.Int).Mul(n, wide(b)).Cmp(wide(a)) >= 0 {
				t.Errorf("Ceil(%d, %d) is not the least", a, b)
			}
		}
	}
}

// P1.3 and P1.4: within, a multiple taken away, and the same when size comes to it.
func TestRingGoesAround(t *testing.T) {
	for _, n := range numbers() {
		for _, size := range numbers() {
			r := Ring(n, size)
			if size < 1 {
				if r != 0 {
					t.Errorf("Ring(%d, %d): %d, not 0", n, size, r)
				}
				continue
			}
			if r < 0 || r >= size {
				t.Errorf("Ring(%d, %d) is not within: %d", n, size, r)
			}
			taken := new(big.Int).Sub(wide(n), wide(r))
			if taken.Rem(taken, wide(size)).Sign() != 0 {
				t.Errorf("Ring(%d, %d): %d leaves no multiple", n, size, r)
			}
			if n <= most-size && Ring(n+size, size) != r {
				t.Errorf("Ring(%d, %d) and one of size more differ", n, size)
			}
		}
	}
}
