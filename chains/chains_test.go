package chains

import (
	"fmt"
	"math"
	"slices"
	"strings"
	"testing"

	"fairway/api"
	"fairway/codec"
)

// strangers are numbers that no node has.
var strangers = []int{-1, -2, -6, 6, 7, api.Master, api.Clients, 255, 256, 1 << 32, 1<<32 + 1, api.MaxNumber, math.MaxInt, math.MinInt, math.MinInt + 1}

// epochs are those at the ends, and where their bytes become more.
var epochs = []int{1, 2, 3, 246, 247, 254, 255, 65534, 65535, 1 << 32, api.MaxNumber - 1, api.MaxNumber}

// noEpochs are numbers that no epoch has.
var noEpochs = []int{0, -1, -2, api.MaxNumber + 1, api.MaxNumber + 2, 1<<40 + 1<<32, math.MaxInt, math.MinInt, math.MinInt + 1}

func chain(epoch, drain int, l ...api.Member) api.Chain {
	return api.Chain{Epoch: epoch, Members: l, Drain: drain}
}

func member(node, since int) api.Member { return api.Member{Node: node, Since: since} }

// row is members of these nodes, each Since 1.
func row(nodes ...int) []api.Member {
	var l []api.Member
	for _, n := range nodes {
		l = append(l, member(n, 1))
	}
	return l
}

// clone is the same chain, with another list, that has no room behind it.
func clone(c api.Chain) api.Chain {
	l := make([]api.Member, len(c.Members))
	copy(l, c.Members)
	c.Members = l
	return c
}

// same holds two chains against each other, without Same.
func same(a, b api.Chain) bool {
	if a.Epoch != b.Epoch || a.Drain != b.Drain || len(a.Members) != len(b.Members) {
		return false
	}
	for i, m := range a.Members {
		if m.Node != b.Members[i].Node || m.Since != b.Members[i].Since {
			return false
		}
	}
	return true
}

// zero tells whether a chain has nothing.
func zero(c api.Chain) bool {
	return c.Epoch == 0 && c.Drain == 0 && len(c.Members) == 0
}

// short is what is told of a value that may be long.
func short(v any) string {
	return fmt.Sprintf("%.160s", fmt.Sprint(v))
}

// orders is all lists of different nodes, from one to six of them, in each order: 1956.
func orders() [][]int {
	var all [][]int
	var grow func(l []int)
	grow = func(l []int) {
		if len(l) > 0 {
			all = append(all, slices.Clone(l))
		}
		for n := range 6 {
			if !slices.Contains(l, n) {
				grow(append(slices.Clone(l), n))
			}
		}
	}
	grow(nil)
	return all
}

// every is chains of members in each order, of which nobody is to leave, and of which somebody is.
func every(f func(c api.Chain)) {
	for i, nodes := range orders() {
		var l []api.Member
		for at, n := range nodes {
			l = append(l, member(n, 1+(at+i)%9))
		}
		f(chain(9+i, -1, l...))
		f(chain(9+i, nodes[i%len(nodes)], l...))
	}
}

// refused are chains that Check refuses, each by one thing.
func refused() []api.Chain {
	a, b := member(2, 1), member(0, 3)
	all := []api.Chain{
		{}, {Epoch: 1}, {Epoch: 1, Drain: -1}, {Epoch: 1, Members: []api.Member{}, Drain: -1}, {Epoch: 1, Members: []api.Member{{}}, Drain: -1},
		chain(3, -1, row(0, 1, 2, 3, 4, 5, 0)...), chain(3, -1, row(0, 1, 2, 3, 4, 5, 6)...), chain(3, -1, row(0, 1, 2, 3, 4, 5, -1)...), chain(3, -1, make([]api.Member, 1<<16)...),
		chain(3, -1, a, a), chain(3, -1, a, b, a), chain(3, -1, b, a, a), chain(3, -1, a, member(2, 2)), chain(3, -1, row(0, 1, 2, 3, 4, 4)...), chain(3, -1, row(0, 1, 2, 3, 4, 0)...), chain(3, 2, a, b, a),
	}
	for _, n := range noEpochs {
		all = append(all, chain(n, -1, a), chain(n, 2, a, b))
	}
	for _, n := range strangers {
		all = append(all, chain(3, -1, member(n, 1)), chain(3, -1, a, member(n, 1)), chain(3, -1, member(n, 1), a), chain(3, n, member(n, 1), a))
	}
	for _, n := range []int{0, -1, -3, 4, 5, 1 << 32, 1<<32 + 1, api.MaxNumber, math.MaxInt, math.MinInt} {
		all = append(all, chain(3, -1, member(2, n)), chain(3, -1, a, member(0, n)), chain(3, -1, member(0, n), a), chain(3, 0, a, member(0, n), member(1, 2)))
	}
	for _, n := range []int{0, 1, 3, 4, 5, -2, -3, 6, 1 << 32, 1<<32 + 2, api.MaxNumber, math.MaxInt, math.MinInt} {
		// The other member is the node 4, or 0, whichever is not named.
		other := member(4, 2)
		if n == 4 {
			other.Node = 0
		}
		all = append(all, chain(3, n, a), chain(3, n, a, other))
	}
	return all
}

// where holds the places of all nodes, and of strangers, against the list of a chain that may be.
func where(t *testing.T, c api.Chain) {
	t.Helper()
	l := c.Members
	if h, z := Head(c), Tail(c); h != l[0].Node || z != l[len(l)-1].Node {
		t.Errorf("%v: Head %d, Tail %d", c, h, z)
	}
	next, prev, since := map[int]int{}, map[int]int{}, map[int]int{}
	for i, m := range l {
		next[m.Node], prev[m.Node], since[m.Node] = -1, -1, m.Since
		if i > 0 {
			next[l[i-1].Node], prev[m.Node] = m.Node, l[i-1].Node
		}
	}
	for _, n := range append([]int{0, 1, 2, 3, 4, 5}, strangers...) {
		if _, ok := since[n]; !ok {
			nowhere(t, c, n)
			continue
		}
		if a, b := Next(c, n), Prev(c, n); a != next[n] || b != prev[n] {
			t.Errorf("%v: Next(%d) %d, Prev %d, not %d, %d", c, n, a, b, next[n], prev[n])
		}
		if s, ok := Since(c, n); s != since[n] || !ok {
			t.Errorf("%v: Since(%d) %d, %t", c, n, s, ok)
		}
	}
}

// nowhere asks that a node stands nowhere in a chain.
func nowhere(t *testing.T, c api.Chain, n int) {
	t.Helper()
	if a, b := Next(c, n), Prev(c, n); a != -1 || b != -1 {
		t.Errorf("%s: Next(%d) %d, Prev %d", short(c), n, a, b)
	}
	if s, ok := Since(c, n); s != 0 || ok {
		t.Errorf("%s: Since(%d) %d, %t", short(c), n, s, ok)
	}
}

// change is With, Without or Drain.
type change func(c api.Chain, n int) (api.Chain, api.Errno)

var changes = map[string]change{"With": With, "Without": Without, "Drain": Drain}

// became holds what a change tells against a chain, and asks that what was handed in stays as it was, room behind its list and all.
func became(t *testing.T, name string, c api.Chain, n int, want api.Chain) {
	t.Helper()
	roomy := c
	roomy.Members = append(make([]api.Member, 0, len(c.Members)+3), c.Members...)
	for _, in := range []api.Chain{clone(c), roomy} {
		d, e := changes[name](in, n)
		if e != api.OK || !same(d, want) {
			t.Errorf("%s(%s, %d): %v, %v, not %v", name, short(c), n, d, e, want)
			return
		}
		if !same(in, c) || slices.ContainsFunc(in.Members[len(c.Members):cap(in.Members)], func(m api.Member) bool { return m != api.Member{} }) {
			t.Errorf("%s(%s, %d): handed in, it became %v", name, short(c), n, in.Members[:cap(in.Members)])
		}
		// What is told shares nothing with what was handed in.
		clear(in.Members[:cap(in.Members)])
		if !same(d, want) {
			t.Errorf("%s(%s, %d): became %v later", name, short(c), n, d)
		}
		in = clone(c)
		d, _ = changes[name](in, n)
		clear(d.Members[:cap(d.Members)])
		if !same(in, c) {
			t.Errorf("%s(%s, %d): handed in, it became %v later", name, short(c), n, in)
		}
	}
}

// refuses asks that a change tells an error, and nothing else.
func refuses(t *testing.T, name string, c api.Chain, n int, want api.Errno) {
	t.Helper()
	was := clone(c)
	if d, e := changes[name](c, n); e != want || !zero(d) {
		t.Errorf("%s(%s, %d): %v, %v, not %v", name, short(c), n, d, e, want)
	}
	if !same(c, was) {
		t.Errorf("%s(%s, %d): handed in, it became %s", name, short(was), n, short(c))
	}
}

// P12.1: what may be, up to the ends.
func TestCheckTakes(t *testing.T) {
	for _, epoch := range epochs {
		for _, since := range []int{1, 2, epoch / 2, epoch - 1, epoch} {
			if since < 1 || since > epoch {
				continue
			}
			for n := range 6 {
				for _, drain := range []int{-1, n} {
					if e := Check(chain(epoch, drain, member(n, since))); e != api.OK {
						t.Errorf("Check(%d, %d, %d, %d): %v", epoch, drain, n, since, e)
					}
				}
				l := row(0, 1, 2, 3, 4, 5)
				l[n].Since = since
				for drain := -1; drain < 6; drain++ {
					if e := Check(chain(epoch, drain, l...)); e != api.OK {
						t.Errorf("Check(%d, %d, %v): %v", epoch, drain, l, e)
					}
				}
			}
		}
	}
	every(func(c api.Chain) {
		if e := Check(c); e != api.OK {
			t.Errorf("Check(%v): %v", c, e)
		}
	})
}

// P12.1, P12.2, P12.3, P12.4: of what may not be nothing is told by any call.
func TestCheckRefuses(t *testing.T) {
	for _, c := range refused() {
		if e := Check(c); e != api.ErrArg {
			t.Errorf("Check(%s): %v", short(c), e)
		}
		if s, e := Put(c); s != "" || e != api.ErrArg {
			t.Errorf("Put(%s): %q, %v", short(c), s, e)
		}
		if h, z := Head(c), Tail(c); h != -1 || z != -1 {
			t.Errorf("%s: Head %d, Tail %d", short(c), h, z)
		}
		for _, n := range append([]int{0, 1, 2, 3, 4, 5}, strangers...) {
			nowhere(t, c, n)
			for name := range changes {
				refuses(t, name, c, n, api.ErrArg)
			}
		}
	}
}

// P12.1: whatever few members there are, against what the words say of each.
func TestCheckFew(t *testing.T) {
	some := []api.Member{}
	for _, n := range []int{-1, 0, 3, 5, 6} {
		for since := range 4 {
			some = append(some, member(n, since))
		}
	}
	took := 0
	try := func(l ...api.Member) {
		for epoch := range 4 {
			for drain := -2; drain < 7; drain++ {
				c := chain(epoch, drain, l...)
				want := api.ErrArg
				if may(c) {
					want = api.OK
					took++
				}
				if e := Check(c); e != want {
					t.Errorf("Check(%v): %v", c, e)
				}
			}
		}
	}
	try()
	for _, a := range some {
		try(a)
		for _, b := range some {
			try(a, b)
		}
	}
	// Of the epochs 1 to 3, each Since up to it: 3 nodes and 2 drains; 6 pairs of nodes and 3 drains.
	if n := (1+2+3)*3*2 + (1+4+9)*6*3; took != n {
		t.Errorf("%d were taken, not %d", took, n)
	}
}

// may tells what Check should, of at most a few members: each thing is asked of all nodes there may be.
func may(c api.Chain) bool {
	seen, drains := [6]int{}, c.Drain == -1
	for _, m := range c.Members {
		if m.Node < 0 || m.Node > 5 || m.Since < 1 || m.Since > c.Epoch {
			return false
		}
		seen[m.Node]++
		drains = drains || m.Node == c.Drain
	}
	return drains && c.Epoch >= 1 && c.Epoch <= 1<<40 && len(c.Members) > 0 && slices.Max(seen[:]) == 1
}

// P12.2: of all orders of members.
func TestWhere(t *testing.T) {
	every(func(c api.Chain) { where(t, c) })
	for _, epoch := range epochs {
		where(t, chain(epoch, -1, member(3, epoch)))
		where(t, chain(epoch, 0, member(3, 1), member(0, epoch), member(5, (epoch+1)/2)))
	}
}

// P12.3: of all orders of members, each node and each number that is none.
func TestChanges(t *testing.T) {
	every(func(c api.Chain) {
		for n := -2; n < 8; n++ {
			i := slices.IndexFunc(c.Members, func(m api.Member) bool { return m.Node == n })
			withs(t, c, n, i)
			withouts(t, c, n, i)
			drains(t, c, n, i)
		}
	})
}

// withs holds With against the words, n being the member of that place, or below 0 none.
func withs(t *testing.T, c api.Chain, n, i int) {
	t.Helper()
	switch {
	case n < 0, n > 5:
		refuses(t, "With", c, n, api.ErrArg)
	case i >= 0:
		refuses(t, "With", c, n, api.ErrHave)
	default:
		want := clone(c)
		want.Epoch++
		want.Members = append(want.Members, member(n, c.Epoch+1))
		became(t, "With", c, n, want)
	}
}

func withouts(t *testing.T, c api.Chain, n, i int) {
	t.Helper()
	switch {
	case i < 0:
		refuses(t, "Without", c, n, api.ErrNone)
	case len(c.Members) == 1:
		refuses(t, "Without", c, n, api.ErrLast)
	default:
		want := chain(c.Epoch+1, c.Drain)
		for _, m := range c.Members {
			if m.Node != n {
				want.Members = append(want.Members, m)
			}
		}
		if c.Drain == n {
			want.Drain = -1
		}
		became(t, "Without", c, n, want)
	}
}

func drains(t *testing.T, c api.Chain, n, i int) {
	t.Helper()
	switch {
	case i < 0:
		refuses(t, "Drain", c, n, api.ErrNone)
	case len(c.Members) == 1:
		refuses(t, "Drain", c, n, api.ErrLast)
	case c.Drain != -1:
		refuses(t, "Drain", c, n, api.ErrHave)
	default:
		want := clone(c)
		want.Epoch, want.Drain = c.Epoch+1, n
		became(t, "Drain", c, n, want)
	}
}

// P12.3: the errors, the one that is named first ahead of the others.
func TestChangesOrder(t *testing.T) {
	a, b, z := member(2, 1), member(0, 3), member(5, 2)
	for _, n := range strangers {
		refuses(t, "With", chain(3, -1, a, b), n, api.ErrArg)
		refuses(t, "Without", chain(3, -1, a, b), n, api.ErrNone)
		refuses(t, "Without", chain(3, -1, a), n, api.ErrNone)
		refuses(t, "Drain", chain(3, -1, a, b), n, api.ErrNone)
		refuses(t, "Drain", chain(3, 2, a, b), n, api.ErrNone)
		refuses(t, "Drain", chain(3, -1, a), n, api.ErrNone)
		refuses(t, "Drain", chain(3, 2, a), n, api.ErrNone)
		for name := range changes {
			refuses(t, name, chain(api.MaxNumber, -1, a, b), n, api.ErrArg)
		}
	}
	// -1 is no member, also where none is to leave.
	refuses(t, "Without", chain(3, -1, a, b), -1, api.ErrNone)
	refuses(t, "Drain", chain(3, -1, a, b), -1, api.ErrNone)
	// The only one can't leave, whether it is to or not.
	refuses(t, "Without", chain(3, 2, a), 2, api.ErrLast)
	refuses(t, "Drain", chain(3, 2, a), 2, api.ErrLast)
	refuses(t, "Drain", chain(3, -1, a), 2, api.ErrLast)
	refuses(t, "Without", chain(3, -1, a), 1, api.ErrNone)
	// One that is to leave, and the same once more.
	for _, n := range []int{2, 0, 5} {
		refuses(t, "Drain", chain(3, 0, a, b, z), n, api.ErrHave)
	}
	refuses(t, "Drain", chain(3, 0, a, b, z), 1, api.ErrNone)
	// Six are all that there are.
	for n := range 6 {
		refuses(t, "With", chain(3, -1, row(5, 4, 3, 2, 1, 0)...), n, api.ErrHave)
	}
}

// P12.3: the last epoch is MaxNumber: there is none behind it.
func TestChangesLastEpoch(t *testing.T) {
	a, b := member(2, 1), member(0, 3)
	for n := range 6 {
		for name := range changes {
			refuses(t, name, chain(api.MaxNumber, -1, a, b), n, api.ErrArg)
			refuses(t, name, chain(api.MaxNumber, 0, a, b), n, api.ErrArg)
			refuses(t, name, chain(api.MaxNumber, -1, a), n, api.ErrArg)
		}
	}
	c := chain(api.MaxNumber-1, -1, a, b)
	became(t, "With", c, 1, chain(api.MaxNumber, -1, a, b, member(1, api.MaxNumber)))
	became(t, "Without", c, 2, chain(api.MaxNumber, -1, b))
	became(t, "Drain", c, 2, chain(api.MaxNumber, 2, a, b))
}

// P12.3: who is to leave stays so when another one comes or goes; the list stays in its order.
func TestChangesDrain(t *testing.T) {
	a, b, z := member(2, 1), member(0, 3), member(5, 2)
	c := chain(7, 0, a, b, z)
	became(t, "With", c, 1, chain(8, 0, a, b, z, member(1, 8)))
	became(t, "Without", c, 2, chain(8, 0, b, z))
	became(t, "Without", c, 5, chain(8, 0, a, b))
	became(t, "Without", c, 0, chain(8, -1, a, z))
	became(t, "Without", chain(7, 0, b, z), 5, chain(8, 0, b))
}

// written holds the bytes of a chain that may be against those that stand here.
func written(t *testing.T, c api.Chain, s string) {
	t.Helper()
	in := clone(c)
	if got, e := Put(in); got != s || e != api.OK || !same(in, c) {
		t.Errorf("Put(%v): %q, %v, not %q", c, got, e, s)
	}
	if got, e := Get(s); e != api.OK || !same(got, c) {
		t.Errorf("Get(%q): %v, %v, not %v", s, got, e, c)
	}
}

// form is the bytes of numbers, one behind the other.
func form(l ...int) string {
	var s strings.Builder
	for _, n := range l {
		s.WriteString(codec.Num(uint64(n + 1)))
	}
	return s.String()
}

// numbers is all that a chain's bytes have, in order.
func numbers(c api.Chain) []int {
	l := []int{c.Epoch, len(c.Members)}
	for _, m := range c.Members {
		l = append(l, m.Node, m.Since)
	}
	return append(l, c.Drain)
}

// noGet asks that the bytes are no chain's.
func noGet(t *testing.T, s string) {
	t.Helper()
	if c, e := Get(s); e != api.ErrForm || !zero(c) {
		t.Errorf("Get(%.60q): %v, %v", s, c, e)
	}
}

// P12.4, P12.5, written out.
func TestBytes(t *testing.T) {
	for s, c := range map[string]api.Chain{
		"\x02\x02\x01\x02\x00":                                                 chain(1, -1, member(0, 1)),
		"\x02\x02\x06\x02\x06":                                                 chain(1, 5, member(5, 1)),
		"\x04\x04\x03\x02\x01\x04\x06\x03\x00":                                 chain(3, -1, member(2, 1), member(0, 3), member(5, 2)),
		"\x04\x04\x03\x02\x01\x04\x06\x03\x01":                                 chain(3, 0, member(2, 1), member(0, 3), member(5, 2)),
		"\x02\x07\x06\x02\x05\x02\x04\x02\x03\x02\x02\x02\x01\x02\x04":         chain(1, 3, row(5, 4, 3, 2, 1, 0)...),
		"\xf7\x02\x01\xf7\x00":                                                 chain(246, -1, member(0, 246)),
		"\xf8\xf8\x02\x01\xf7\x00":                                             chain(247, -1, member(0, 246)),
		"\xf8\xff\x03\x01\xf8\xff\x02\x02\x02":                                 chain(254, 1, member(0, 254), member(1, 1)),
		"\xf9\x01\x00\x02\x01\x02\x00":                                         chain(255, -1, member(0, 1)),
		"\xfd\x01\x00\x00\x00\x00\x01\x02\x01\xfd\x01\x00\x00\x00\x00\x01\x01": chain(api.MaxNumber, 0, member(0, api.MaxNumber)),
	} {
		written(t, c, s)
	}
}

// P12.4, P12.5: what is put is got, of all orders; what is cut off, or has more behind it, is none.
func TestBytesAll(t *testing.T) {
	every(func(c api.Chain) {
		s := form(numbers(c)...)
		written(t, c, s)
		for i := range s {
			noGet(t, s[:i])
		}
		for _, more := range []string{"\x00", "\x01", "\x02\x02", "\xf8\xf8", "\xff", s} {
			noGet(t, s+more)
		}
	})
	for _, epoch := range epochs {
		c := chain(epoch, 1, member(4, epoch), member(1, 1), member(0, (epoch+1)/2))
		written(t, c, form(numbers(c)...))
	}
}

// P12.4: the bytes of what Check refuses are none's.
func TestGetRefuses(t *testing.T) {
	for _, c := range refused() {
		l := numbers(c)
		fits := true
		for _, n := range l {
			fits = fits && n >= -1
		}
		if fits {
			noGet(t, form(l...))
		}
	}
}

// P12.4: numbers of other forms, and how many members there are told otherwise.
func TestGetForms(t *testing.T) {
	seven := "\x04\x08\x01\x02\x02\x02\x03\x02\x04\x02\x05\x02\x06\x02"
	for _, s := range []string{
		"", "\x00", "\x01", "\x02", "\xf8", "\xff", "\x02\x01", "\x02\x01\x00", "\x02\x00", "\x02\x00\x00", "\x02\x00\x01\x02\x00", "\x02\x01\x01\x02\x00", "\x02\x01\x01",
		"\x02\x03\x01\x02\x00", "\x04\x05\x03\x02\x01\x04\x06\x03\x00", "\x04\x03\x03\x02\x01\x04\x06\x03\x00", "\x04\x04\x03\x02\x01\x04\x06\x03",
		seven + "\x00", seven + "\x01\x02\x00", seven + "\x07\x02\x00", seven + "\x00\x02\x00", "\x04\x08" + seven[2:] + seven[2:] + "\x00",
		"\xf8\x02\x02\x01\x02\x00", "\xf9\x00\x02\x02\x01\x02\x00", "\x02\xf8\x02\x01\x02\x00", "\x02\x02\xf8\x01\x02\x00", "\x02\x02\x01\xf8\x02\x00", "\x02\x02\x01\x02\xf8\x00", "\x02\x02\x01\x02\xf8\xf8",
		"\x02\xfd\x01\x00\x00\x00\x00\x01\x01\x02\x00", "\x02\xfd\x01\x00\x00\x00\x00\x02\x01\x02\x00", "\x02\xff\xff\xff\xff\xff\xff\xff\xff\xff\x01\x02\x00", "\x02\xff\x80\x00\x00\x00\x00\x00\x00\x00\x01\x02\x00",
		"\xfd\x01\x00\x00\x00\x00\x02\x02\x01\x02\x00", "\xff\xff\xff\xff\xff\xff\xff\xff\xff\x02\x01\x02\x00", "\x02\x02\x01\xfd\x01\x00\x00\x00\x00\x02\x00", "\x02\x02\x01\x02\xff\xff\xff\xff\xff\xff\xff\xff\xff",
		"\x02\x02\x01\x02\xfc\x01\x00\x00\x00\x01", "\x02\x02\xfc\x01\x00\x00\x00\x01\x02\x00",
		"\x04" + form(1<<16) + strings.Repeat("\x01\x02", 1<<16) + "\x00", strings.Repeat("\x02", 1<<16),
	} {
		noGet(t, s)
	}
}

// stood holds what is told of bytes against them: a chain that may be whose bytes they are; or none has them.
func stood(t *testing.T, s string) {
	t.Helper()
	c, e := Get(s)
	if e != api.OK {
		noGet(t, s)
		if valid(s) {
			t.Errorf("Get(%q): %v", s, e)
		}
		return
	}
	if !may(c) || form(numbers(c)...) != s {
		t.Errorf("Get(%q): %v", s, c)
	}
	written(t, c, s)
}

// valid tells whether bytes are a chain's by another way: all numbers are read first, and then told apart.
func valid(s string) bool {
	var l []int
	for s != "" {
		n, rest, ok := codec.Read(s)
		if !ok || n > 1<<40+1 {
			return false
		}
		l, s = append(l, int(n)-1), rest
	}
	if len(l) < 5 || len(l) > 15 || len(l)%2 == 0 || l[1] != (len(l)-3)/2 {
		return false
	}
	c := api.Chain{Epoch: l[0], Drain: l[len(l)-1]}
	for i := 2; i < len(l)-1; i += 2 {
		c.Members = append(c.Members, member(l[i], l[i+1]))
	}
	return may(c)
}

// P12.4, P12.5: a chain's bytes with one that is another one, or left out, or there twice.
func TestGetChanged(t *testing.T) {
	for _, c := range []api.Chain{
		chain(1, -1, member(0, 1)), chain(3, -1, member(2, 1), member(0, 3), member(5, 2)), chain(300, 4, member(4, 255), member(1, 1)), chain(4, 0, row(5, 0, 3, 1, 2, 4)...),
	} {
		s := form(numbers(c)...)
		for i := range s {
			stood(t, s[:i]+s[i+1:])
			stood(t, s[:i+1]+s[i:])
			for b := range 256 {
				stood(t, s[:i]+string([]byte{byte(b)})+s[i+1:])
			}
		}
	}
}

// P12.4, P12.5: whatever few bytes there are.
func TestGetFew(t *testing.T) {
	few := []byte{0, 1, 2, 3, 4, 6, 7, 0xf7, 0xf8, 0xff}
	var grow func(s string)
	grow = func(s string) {
		stood(t, s)
		if len(s) == 5 {
			return
		}
		for _, b := range few {
			grow(s + string([]byte{b}))
		}
	}
	grow("")
}

// R4: what is got is the caller's own, and another one each time.
func TestGetOwn(t *testing.T) {
	c := chain(3, -1, member(2, 1), member(0, 3), member(5, 2))
	s := form(numbers(c)...)
	for range 3 {
		got, e := Get(s)
		if e != api.OK || !same(got, c) {
			t.Fatalf("Get(%q): %v, %v", s, got, e)
		}
		clear(got.Members[:cap(got.Members)])
	}
}

// agrees holds Same against what it should tell, both ways round.
func agrees(t *testing.T, a, b api.Chain, want bool) {
	t.Helper()
	if x, y := Same(a, b), Same(b, a); x != want || y != want {
		t.Errorf("Same(%s, %s): %t, %t", short(a), short(b), x, y)
	}
}

// P12.4 (Same): by each thing that a chain has, be it one that may be or not.
func TestSame(t *testing.T) {
	for _, c := range append(refused(), chain(3, -1, member(2, 1), member(0, 3), member(5, 2)), chain(3, 2, member(2, 1))) {
		agrees(t, c, c, true)
		agrees(t, c, clone(c), true)
		agrees(t, c, chain(c.Epoch^1, c.Drain, c.Members...), false)
		agrees(t, c, chain(c.Epoch^1<<40, c.Drain, c.Members...), false)
		agrees(t, c, chain(c.Epoch, c.Drain^1, c.Members...), false)
		agrees(t, c, chain(c.Epoch, c.Drain^1<<40, c.Members...), false)
		agrees(t, c, chain(c.Epoch, c.Drain, append(clone(c).Members, api.Member{})...), false)
		for i := range min(len(c.Members), 8) {
			d := clone(c)
			d.Members[i].Node ^= 1
			agrees(t, c, d, false)
			d = clone(c)
			d.Members[i].Since ^= 1
			agrees(t, c, d, false)
			agrees(t, c, chain(c.Epoch, c.Drain, slices.Delete(clone(c).Members, i, i+1)...), false)
		}
	}
	a, b := member(2, 1), member(0, 3)
	agrees(t, chain(3, -1, a, b), chain(3, -1, b, a), false)
	agrees(t, chain(3, -1, a, b), chain(3, -1, a), false)
	agrees(t, chain(3, -1, a, b), chain(3, -1), false)
	// A list may be nil or empty: that is the same.
	agrees(t, api.Chain{}, api.Chain{Members: []api.Member{}}, true)
	agrees(t, chain(3, -1), api.Chain{Epoch: 3, Members: make([]api.Member, 0, 4), Drain: -1}, true)
}

// P12.5: Next and Prev lead back to each other, and from the head to the tail past all.
func TestNextAndPrev(t *testing.T) {
	every(func(c api.Chain) {
		n, steps := Head(c), 1
		for ; Next(c, n) != -1 && steps < 9; steps++ {
			if back := Prev(c, Next(c, n)); back != n {
				t.Errorf("%v: Prev(Next(%d)): %d", c, n, back)
			}
			n = Next(c, n)
		}
		if n != Tail(c) || steps != len(c.Members) || Prev(c, Head(c)) != -1 {
			t.Errorf("%v: %d behind %d steps", c, n, steps)
		}
	})
}

// P12.5: a chain without what it was given is the one ahead, two epochs later; each one on the way may be.
func TestWithAndWithout(t *testing.T) {
	every(func(c api.Chain) {
		for n := range 6 {
			d, e := With(c, n)
			if e == api.ErrHave {
				continue
			}
			if e != api.OK || Check(d) != api.OK || Tail(d) != n {
				t.Fatalf("With(%v, %d): %v, %v", c, n, d, e)
			}
			back, e := Without(d, n)
			want := clone(c)
			want.Epoch += 2
			if e != api.OK || !Same(back, want) || !same(back, want) {
				t.Errorf("Without(With(%v, %d)): %v, %v", c, n, back, e)
			}
		}
	})
}

// P12.3, P12.5: whatever few changes there are, one behind the other: each chain may be, its epoch is one more.
func TestWalks(t *testing.T) {
	var walk func(c api.Chain, steps int)
	walk = func(c api.Chain, steps int) {
		if Check(c) != api.OK || t.Failed() {
			t.Fatalf("Check(%v): %v", c, Check(c))
		}
		where(t, c)
		if steps == 0 {
			return
		}
		for n := -1; n < 7; n++ {
			for name := range changes {
				d, e := changes[name](c, n)
				if e != api.OK {
					refuses(t, name, c, n, e)
					continue
				}
				if d.Epoch != c.Epoch+1 {
					t.Errorf("%s(%v, %d): %v", name, c, n, d)
				}
				walk(d, steps-1)
			}
		}
	}
	walk(chain(1, -1, row(0, 1)...), 4)
}

// The chapter's examples.
func TestExamples(t *testing.T) {
	a, b := member(2, 1), member(0, 3)
	c := chain(3, -1, a, b)
	if Head(c) != 2 || Tail(c) != 0 || Next(c, 2) != 0 || Prev(c, 2) != -1 {
		t.Errorf("%d, %d, %d, %d", Head(c), Tail(c), Next(c, 2), Prev(c, 2))
	}
	became(t, "With", c, 1, chain(4, -1, a, b, member(1, 4)))
	became(t, "Without", c, 2, chain(4, -1, b))
	became(t, "Drain", c, 0, chain(4, 0, a, b))
	refuses(t, "Drain", chain(4, 0, a, b), 2, api.ErrHave)
}

// R2: what is told hangs on nothing that was asked ahead.
func TestAgain(t *testing.T) {
	c := chain(3, -1, member(2, 1), member(0, 3))
	for range 3 {
		where(t, c)
		became(t, "With", c, 1, chain(4, -1, member(2, 1), member(0, 3), member(1, 4)))
		became(t, "Drain", c, 2, chain(4, 2, member(2, 1), member(0, 3)))
		written(t, c, "\x04\x03\x03\x02\x01\x04\x00")
		refuses(t, "With", c, 0, api.ErrHave)
		noGet(t, "\x04\x03\x03\x02\x01\x04")
	}
}
