package logs

import (
	"fmt"
	"math"
	"slices"
	"strings"
	"testing"

	"fairway/api"
	"fairway/kv"
)

// beyond are indices that no log has an entry at.
var beyond = []int{0, -1, -2, -4096, 4097, 4098, 1 << 16, 1 << 32, 1<<32 + 1, api.MaxNumber, math.MaxInt, math.MaxInt - 1, math.MinInt, math.MinInt + 1}

// strangers are numbers that no client has.
var strangers = []int{-1, -2, -6, 6, 7, api.Clients, 255, 256, 1 << 32, 1<<32 + 1, math.MaxInt, math.MinInt}

// someKeys are keys that are looked for, there or not.
var someKeys = []string{"", "a", "b", "k", "kk", "z", "\x00", text(16), text(17), text(1 << 16)}

// short is what is told of a value that may be long.
func short(v any) string {
	return fmt.Sprintf("%.160s", fmt.Sprint(v))
}

// text is a text of n bytes.
func text(n int) string { return strings.Repeat("x", n) }

func get(key string) api.Op { return api.Op{Kind: api.OpGet, Key: key} }

func put(key, value string) api.Op { return api.Op{Kind: api.OpPut, Key: key, Value: value} }

func drop(key string) api.Op { return api.Op{Kind: api.OpDelete, Key: key} }

func swap(key, value string, version int) api.Op {
	return api.Op{Kind: api.OpSwap, Key: key, Value: value, Version: version}
}

func entry(index, client, seq int, o api.Op) api.Entry {
	return api.Entry{Index: index, Client: client, Seq: seq, Op: o}
}

// badOps are operations that may not be, and those that are too long.
func badOps() []api.Op {
	return []api.Op{
		{}, {Key: "k"}, {Kind: -1, Key: "k"}, {Kind: 5, Key: "k", Value: "v"}, {Kind: 1<<32 + 2, Key: "k", Value: "v"}, {Kind: math.MaxInt, Key: "k"}, {Kind: math.MinInt, Key: "k"},
		put("", "v"), drop(""), swap("", "v", 0), {Kind: api.OpPut, Key: "k", Value: "v", Version: 1}, {Kind: api.OpDelete, Key: "k", Value: "v"}, {Kind: api.OpDelete, Key: "k", Version: 1},
		swap("k", "v", -1), swap("k", "v", 4097), swap("k", "v", math.MaxInt), swap("k", "v", math.MinInt),
		put(text(17), "v"), drop(text(17)), swap(text(17), "v", 0), put("k", text(65)), swap("k", text(65), 0), put(text(1<<16), text(1<<16)),
	}
}

// badGets are those that read, be they such as may be or not.
func badGets() []api.Op {
	return []api.Op{get("k"), get("a"), get(text(16)), get(""), get(text(17)), {Kind: api.OpGet, Key: "k", Value: "v"}, {Kind: api.OpGet, Key: "k", Version: 1}}
}

func made(t *testing.T) *Log {
	t.Helper()
	l := New()
	if l == nil {
		t.Fatal("New: nil")
	}
	return l
}

// filled is a log of these entries.
func filled(t *testing.T, all []api.Entry) *Log {
	t.Helper()
	l := made(t)
	for _, e := range all {
		if _, f := l.Append(e); f != api.OK {
			t.Fatalf("Append(%s): %v", short(e), f)
		}
	}
	return l
}

// taken holds what is told of an entry that may stand there against what it should do.
func taken(t *testing.T, l *Log, e api.Entry, want api.Result) {
	t.Helper()
	if r, f := l.Append(e); r != want || f != api.OK {
		t.Errorf("Append(%s): %v, %v, not %v", short(e), r, f, want)
	}
}

// refused asks that an entry does not come to stand there, and why.
func refused(t *testing.T, l *Log, e api.Entry, want api.Errno) {
	t.Helper()
	if r, f := l.Append(e); r != (api.Result{}) || f != want {
		t.Errorf("Append(%s): %v, %v, not %v", short(e), r, f, want)
	}
}

// replayed is what these entries do, one behind the other, and the store that they lead to.
func replayed(all []api.Entry) ([]api.Result, *kv.Store) {
	var results []api.Result
	s := kv.New()
	for i, e := range all {
		results = append(results, s.Apply(i+1, e.Op))
	}
	return results, s
}

// last is the Seq and the Index of a client's last one, looked for from the end.
func last(all []api.Entry, client int) (seq, index int) {
	for i := len(all); i > 0; i-- {
		if all[i-1].Client == client {
			return all[i-1].Seq, i
		}
	}
	return 0, 0
}

// stands holds all that a log tells without a change against these entries.
func stands(t *testing.T, l *Log, all []api.Entry) {
	t.Helper()
	results, s := replayed(all)
	if l.Len() != len(all) || !slices.Equal(l.Entries(), all) {
		t.Errorf("Len, Entries: %d, %s, not %s", l.Len(), short(l.Entries()), short(all))
	}
	for i := range all {
		if e, ok := l.At(i + 1); e != all[i] || !ok {
			t.Errorf("At(%d): %s, %t", i+1, short(e), ok)
		}
		if r, ok := l.Result(i + 1); r != results[i] || !ok {
			t.Errorf("Result(%d): %v, %t, not %v", i+1, r, ok, results[i])
		}
	}
	for _, i := range append([]int{len(all) + 1, len(all) + 2}, beyond...) {
		nothing(t, l, i)
	}
	for client := range api.MaxClients {
		seq, index := last(all, client)
		lasts(t, l, client, seq, index)
	}
	for _, client := range strangers {
		lasts(t, l, client, 0, 0)
	}
	for _, key := range append(s.Keys(), someKeys...) {
		looked(t, l, key, s.Look(key, len(all)))
	}
}

// nothing asks that there is no entry of that index.
func nothing(t *testing.T, l *Log, i int) {
	t.Helper()
	if e, ok := l.At(i); e != (api.Entry{}) || ok {
		t.Errorf("At(%d): %s, %t", i, short(e), ok)
	}
	if r, ok := l.Result(i); r != (api.Result{}) || ok {
		t.Errorf("Result(%d): %v, %t", i, r, ok)
	}
}

func lasts(t *testing.T, l *Log, client, seq, index int) {
	t.Helper()
	if s, i := l.Last(client); s != seq || i != index {
		t.Errorf("Last(%d): %d, %d, not %d, %d", client, s, i, seq, index)
	}
}

func looked(t *testing.T, l *Log, key string, want api.Result) {
	t.Helper()
	if r := l.Look(key); r != want {
		t.Errorf("Look(%.40q): %v, not %v", key, r, want)
	}
}

// begins holds Begins against what it should tell.
func begins(t *testing.T, a, b *Log, want bool) {
	t.Helper()
	if got := Begins(a, b); got != want {
		t.Errorf("Begins of %d and %d entries: %t", a.Len(), b.Len(), got)
	}
}

// some are entries of several clients and keys, of which not all change something.
func some() []api.Entry {
	return []api.Entry{
		entry(1, 0, 3, put("k", "v")), entry(2, 5, 2, drop("z")), entry(3, 0, 5, swap("k", "w", 1)), entry(4, 2, 7, swap("k", "u", 1)),
		entry(5, 5, 4, drop("k")), entry(6, 0, 9, swap("k", "", 0)), entry(7, 2, 1<<40+1, put("a", text(64))), entry(8, 3, math.MaxInt, put("k", "t")),
	}
}

// long is n entries of all clients over a few keys.
func long(n int) []api.Entry {
	var all []api.Entry
	keys := []string{"a", "b", "k", "z", "\x00"}
	for i := 1; i <= n; i++ {
		key := keys[i%5]
		o := []api.Op{put(key, text(i%65)), swap(key, "s", max(i-5, 0)), drop(key), swap(key, "q", 0)}[i/5%4]
		all = append(all, entry(i, i*i/3%6, i, o))
	}
	return all
}

// P11.2, P11.3: each new one is another log, without entries.
func TestNew(t *testing.T) {
	l, o := made(t), made(t)
	stands(t, l, nil)
	taken(t, l, entry(1, 0, 1, put("k", "v")), api.Result{Code: api.ReOK, Version: 1, At: 1})
	stands(t, o, nil)
	stands(t, made(t), nil)
	stands(t, l, []api.Entry{entry(1, 0, 1, put("k", "v"))})
}

// P11.1: what each entry did, written out; what changes nothing stands there too.
func TestAppend(t *testing.T) {
	l := made(t)
	all := some()
	for i, want := range []api.Result{
		{Code: api.ReOK, Version: 1, At: 1}, {Code: api.ReMissing, At: 2}, {Code: api.ReOK, Version: 3, At: 3}, {Code: api.ReVersion, Value: "w", Version: 3, At: 4},
		{Code: api.ReOK, At: 5}, {Code: api.ReOK, Version: 6, At: 6}, {Code: api.ReOK, Version: 7, At: 7}, {Code: api.ReOK, Version: 8, At: 8},
	} {
		taken(t, l, all[i], want)
		stands(t, l, all[:i+1])
		if r, ok := l.Result(i + 1); r != want || !ok {
			t.Errorf("Result(%d): %v, %t", i+1, r, ok)
		}
	}
	for client, want := range [][2]int{{9, 6}, {0, 0}, {1<<40 + 1, 7}, {math.MaxInt, 8}, {0, 0}, {4, 5}} {
		lasts(t, l, client, want[0], want[1])
	}
	looked(t, l, "k", api.Result{Code: api.ReOK, Value: "t", Version: 8, At: 8})
	looked(t, l, "a", api.Result{Code: api.ReOK, Value: text(64), Version: 7, At: 8})
	looked(t, l, "z", api.Result{Code: api.ReMissing, At: 8})
}

// P11.1: what an entry has, up to the ends.
func TestAppendEnds(t *testing.T) {
	for client := range api.MaxClients {
		for _, seq := range []int{1, 2, 1 << 32, api.MaxNumber, api.MaxNumber + 1, math.MaxInt} {
			for _, o := range []api.Op{put(text(16), text(64)), put("k", ""), put("\x00", "\xff"), swap("k", "", 0), swap(text(16), text(64), 0)} {
				l := made(t)
				taken(t, l, entry(1, client, seq, o), api.Result{Code: api.ReOK, Version: 1, At: 1})
				stands(t, l, []api.Entry{entry(1, client, seq, o)})
			}
			for _, o := range []api.Op{swap("k", "v", 1), swap("k", "v", 4096)} {
				l := made(t)
				taken(t, l, entry(1, client, seq, o), api.Result{Code: api.ReVersion, At: 1})
				stands(t, l, []api.Entry{entry(1, client, seq, o)})
			}
			l := made(t)
			taken(t, l, entry(1, client, seq, drop("k")), api.Result{Code: api.ReMissing, At: 1})
			stands(t, l, []api.Entry{entry(1, client, seq, drop("k"))})
		}
	}
}

// P11.1 (ErrArg): each thing that may not be, alone and with what other errors name; nothing changes.
func TestAppendArg(t *testing.T) {
	for _, all := range [][]api.Entry{nil, some()} {
		l := filled(t, all)
		next := len(all) + 1
		for _, index := range append([]int{next, next - 1, next + 1}, beyond...) {
			for _, client := range strangers {
				refused(t, l, entry(index, client, 10, put("k", "v")), api.ErrArg)
			}
			for _, seq := range []int{0, -1, -10, -1 << 32, math.MinInt, math.MinInt + 1} {
				refused(t, l, entry(index, 1, seq, put("k", "v")), api.ErrArg)
				refused(t, l, entry(index, 0, seq, put("k", "v")), api.ErrArg)
			}
			for _, o := range append(badOps(), badGets()...) {
				refused(t, l, entry(index, 1, 1, o), api.ErrArg)
				refused(t, l, entry(index, 0, 1, o), api.ErrArg)
			}
		}
		refused(t, l, api.Entry{}, api.ErrArg)
		stands(t, l, all)
	}
}

// P11.1 (ErrOrder): each index but the next one, also where the Seq is old.
func TestAppendOrder(t *testing.T) {
	all := some()
	for n := range len(all) + 1 {
		l := filled(t, all[:n])
		for index := -2; index < n+4; index++ {
			if index != n+1 {
				refused(t, l, entry(index, 4, 1, put("k", "v")), api.ErrOrder)
				refused(t, l, entry(index, 0, 1, put("k", "v")), api.ErrOrder)
			}
		}
		for _, index := range beyond {
			refused(t, l, entry(index, 4, 1, put("k", "v")), api.ErrOrder)
			refused(t, l, entry(index, 0, 1, drop("k")), api.ErrOrder)
		}
		stands(t, l, all[:n])
		taken(t, l, entry(n+1, 4, 1, put("m", "v")), api.Result{Code: api.ReOK, Version: n + 1, At: n + 1})
	}
}

// P11.1 (ErrOld): a Seq must be above that of its own client's last one, by however much; the others' make no difference.
func TestAppendOld(t *testing.T) {
	all := some()
	l := filled(t, all)
	for client, seq := range []int{9, 0, 1<<40 + 1, math.MaxInt, 0, 4} {
		for _, old := range []int{1, 2, 3, seq / 2, seq - 1, seq} {
			if old >= 1 && old <= seq {
				refused(t, l, entry(9, client, old, put("k", "v")), api.ErrOld)
				refused(t, l, entry(9, client, old, all[0].Op), api.ErrOld)
			}
		}
		for _, more := range []int{seq + 1, seq + 2, api.MaxNumber + 9, math.MaxInt} {
			if more > seq {
				taken(t, l.Copy(), entry(9, client, more, drop("z")), api.Result{Code: api.ReMissing, At: 9})
			}
		}
	}
	// The same entry once more, and as it would stand next.
	for _, e := range all {
		refused(t, l, e, api.ErrOrder)
		refused(t, l, entry(9, e.Client, e.Seq, e.Op), api.ErrOld)
	}
	stands(t, l, all)
}

// P11.1 (ErrFull): there are 4096 at most; it is told behind what may not be, and ahead of all else.
func TestAppendFull(t *testing.T) {
	all := long(4096)
	l := made(t)
	results, _ := replayed(all)
	for i, e := range all {
		taken(t, l, e, results[i])
	}
	c := l.Copy()
	for _, l := range []*Log{l, c} {
		for _, index := range append([]int{1, 4095, 4096}, beyond...) {
			for client := range api.MaxClients {
				for _, seq := range []int{1, 4096, 4097, math.MaxInt} {
					refused(t, l, entry(index, client, seq, put("k", "v")), api.ErrFull)
				}
			}
			refused(t, l, entry(index, 6, 4097, put("k", "v")), api.ErrArg)
			refused(t, l, entry(index, -1, 4097, put("k", "v")), api.ErrArg)
			refused(t, l, entry(index, 0, 0, put("k", "v")), api.ErrArg)
			refused(t, l, entry(index, 0, 4097, get("k")), api.ErrArg)
			refused(t, l, entry(index, 0, 4097, put("", "v")), api.ErrArg)
			refused(t, l, entry(index, 0, 4097, put("k", text(65))), api.ErrArg)
		}
		stands(t, l, all)
	}
	// One fewer, and there is room for one, which is told in the usual order.
	l = filled(t, all[:4095])
	refused(t, l, entry(4097, 0, 5000, put("k", "v")), api.ErrOrder)
	refused(t, l, entry(4095, 0, 5000, put("k", "v")), api.ErrOrder)
	refused(t, l, entry(4096, 1, 1, put("k", "v")), api.ErrOld)
	taken(t, l, entry(4096, 0, 5000, put("k", "v")), api.Result{Code: api.ReOK, Version: 4096, At: 4096})
	refused(t, l, entry(4097, 0, 5001, put("k", "v")), api.ErrFull)
	looked(t, l, "k", api.Result{Code: api.ReOK, Value: "v", Version: 4096, At: 4096})
}

// P11.2 (Entries): the list is the caller's own, and another one each time.
func TestEntries(t *testing.T) {
	all := some()
	l := filled(t, all)
	for range 3 {
		got := l.Entries()
		if !slices.Equal(got, all) {
			t.Fatalf("Entries: %s", short(got))
		}
		clear(got[:cap(got)])
		_ = append(got[:0], entry(9, 9, 9, put("x", "x")))
		stands(t, l, all)
	}
	was := l.Entries()
	taken(t, l, entry(9, 1, 1, drop("k")), api.Result{Code: api.ReOK, At: 9})
	if !slices.Equal(was, all) {
		t.Errorf("Entries: %s, behind Append", short(was))
	}
	stands(t, l, append(all, entry(9, 1, 1, drop("k"))))
}

// P11.3 (Last): of each client its own, whoever comes behind it.
func TestLast(t *testing.T) {
	l := made(t)
	for client := range api.MaxClients {
		lasts(t, l, client, 0, 0)
	}
	for i := 1; i <= 30; i++ {
		client := []int{5, 0, 3, 3, 1}[i%5]
		taken(t, l, entry(i, client, 10*i, put("k", "v")), api.Result{Code: api.ReOK, Version: i, At: i})
		lasts(t, l, client, 10*i, i)
		lasts(t, l, 2, 0, 0)
		lasts(t, l, 4, 0, 0)
	}
	for client, want := range [][2]int{{260, 26}, {290, 29}, {0, 0}, {280, 28}, {0, 0}, {300, 30}} {
		lasts(t, l, client, want[0], want[1])
	}
}

// P11.3 (Look): as the store has it behind all entries, whatever the key; At goes on with each entry.
func TestLook(t *testing.T) {
	l := made(t)
	looked(t, l, "k", api.Result{Code: api.ReMissing})
	taken(t, l, entry(1, 0, 1, put("k", "v")), api.Result{Code: api.ReOK, Version: 1, At: 1})
	taken(t, l, entry(2, 0, 2, put("\x00", "")), api.Result{Code: api.ReOK, Version: 2, At: 2})
	looked(t, l, "k", api.Result{Code: api.ReOK, Value: "v", Version: 1, At: 2})
	looked(t, l, "\x00", api.Result{Code: api.ReOK, Version: 2, At: 2})
	for _, key := range []string{"", "K", "kk", "k\x00", "v", text(17), text(1 << 20)} {
		looked(t, l, key, api.Result{Code: api.ReMissing, At: 2})
	}
	taken(t, l, entry(3, 1, 1, drop("k")), api.Result{Code: api.ReOK, At: 3})
	looked(t, l, "k", api.Result{Code: api.ReMissing, At: 3})
	looked(t, l, "\x00", api.Result{Code: api.ReOK, Version: 2, At: 3})
}

// P11.4 (Copy): the same, and each of both goes on by itself, however many entries there are.
func TestCopy(t *testing.T) {
	all := long(70)
	for n := range len(all) {
		l := filled(t, all[:n])
		c := l.Copy()
		if c == nil || c == l {
			t.Fatal("Copy: the same, or none")
		}
		stands(t, c, all[:n])
		ours := append(slices.Clone(all[:n]), entry(n+1, 1, 1000, put("k", "ours")), entry(n+2, 1, 1001, drop("a")))
		theirs := append(slices.Clone(all[:n]), entry(n+1, 4, 2000, swap("k", "theirs", 0)), entry(n+2, 1, 1000, put("a", "theirs")))
		for i := n; i < n+2; i++ {
			for _, x := range []struct {
				l *Log
				e api.Entry
			}{{l, ours[i]}, {c, theirs[i]}} {
				if _, f := x.l.Append(x.e); f != api.OK {
					t.Fatalf("Append(%s): %v", short(x.e), f)
				}
			}
		}
		stands(t, l, ours)
		stands(t, c, theirs)
		stands(t, c.Copy(), theirs)
		begins(t, l, c, false)
		begins(t, c, l, false)
	}
}

// P11.4 (Begins): of all pairs of beginnings; the longer one never begins the shorter one.
func TestBegins(t *testing.T) {
	all := some()
	for i := range len(all) + 1 {
		for j := range len(all) + 1 {
			begins(t, filled(t, all[:i]), filled(t, all[:j]), i <= j)
		}
	}
}

// P11.4 (Begins): by each thing that an entry has, at each place.
func TestBeginsOther(t *testing.T) {
	all := some()
	for i := range all {
		for _, change := range []func(e *api.Entry){
			func(e *api.Entry) { e.Client = 4 - e.Client%2*3 },
			func(e *api.Entry) { e.Seq-- },
			func(e *api.Entry) { e.Op.Key += "z" },
			func(e *api.Entry) { e.Op = put(e.Op.Key, text(63)) },
			func(e *api.Entry) { e.Op = drop("q") },
			func(e *api.Entry) { e.Op = swap(e.Op.Key, e.Op.Value, 5) },
		} {
			other := slices.Clone(all[:i+1])
			change(&other[i])
			o := filled(t, other)
			for n := range len(all) + 1 {
				l := filled(t, all[:n])
				begins(t, l, o, n <= i)
				begins(t, o, l, false)
			}
		}
	}
}

// P11.4 (Begins): by the entries, not by what became of them, nor by what they led to.
func TestBeginsByEntries(t *testing.T) {
	a := filled(t, []api.Entry{entry(1, 0, 1, drop("a"))})
	b := filled(t, []api.Entry{entry(1, 0, 1, drop("b"))})
	begins(t, a, b, false)
	begins(t, b, a, false)
	a = filled(t, []api.Entry{entry(1, 0, 1, put("a", "v"))})
	b = filled(t, []api.Entry{entry(1, 0, 1, swap("a", "v", 0))})
	begins(t, a, b, false)
	begins(t, b, a, false)
}

// P11.1 to P11.4: of logs that are none.
func TestNone(t *testing.T) {
	for _, l := range []*Log{nil, {}, new(Log)} {
		for _, index := range append([]int{1, 2, 4096}, beyond...) {
			for _, client := range append([]int{0, 5}, strangers...) {
				for _, o := range []api.Op{{}, get("k"), put("k", "v"), drop("k"), swap("k", "v", 0), put(text(17), text(65))} {
					refused(t, l, entry(index, client, 1, o), api.ErrNil)
					refused(t, l, entry(index, client, 0, o), api.ErrNil)
				}
				lasts(t, l, client, 0, 0)
			}
			nothing(t, l, index)
		}
		for _, key := range someKeys {
			looked(t, l, key, api.Result{})
		}
		if l.Len() != 0 || len(l.Entries()) != 0 || l.Copy() != nil {
			t.Errorf("Len, Entries, Copy: %d, %v, %v", l.Len(), l.Entries(), l.Copy())
		}
		for _, o := range []*Log{nil, {}, new(Log)} {
			begins(t, l, o, true)
		}
		for _, o := range []*Log{made(t), filled(t, some())} {
			begins(t, l, o, false)
			begins(t, o, l, false)
		}
		begins(t, l, l, true)
	}
}

// P11.1 to P11.5: whatever few entries there are, one behind the other, against all that stood there by then.
func TestWalks(t *testing.T) {
	ops := []api.Op{put("a", "v"), drop("a"), swap("a", "w", 0), swap("a", "w", 1), put("b", ""), get("a")}
	var walk func(l *Log, all []api.Entry)
	walk = func(l *Log, all []api.Entry) {
		stands(t, l, all)
		if len(all) == 3 || t.Failed() {
			return
		}
		for client := range 2 {
			for seq := range 4 {
				for _, o := range ops {
					c := l.Copy()
					e := entry(len(all)+1, client, seq, o)
					old, _ := last(all, client)
					if seq == 0 || o.Kind == api.OpGet {
						refused(t, c, e, api.ErrArg)
						continue
					}
					if seq <= old {
						refused(t, c, e, api.ErrOld)
						continue
					}
					more := append(slices.Clone(all), e)
					results, _ := replayed(more)
					taken(t, c, e, results[len(all)])
					begins(t, l, c, true)
					begins(t, c, l, false)
					walk(c, more)
				}
			}
		}
	}
	walk(made(t), nil)
}

// P11.5: the same entries, the same results, the same store, whatever was refused between them.
func TestSameEntries(t *testing.T) {
	all := long(300)
	l, o := filled(t, all), made(t)
	for _, e := range all {
		refused(t, o, entry(e.Index+1, e.Client, e.Seq, e.Op), api.ErrOrder)
		refused(t, o, entry(e.Index, e.Client, 0, e.Op), api.ErrArg)
		refused(t, o, entry(e.Index, e.Client, e.Seq, get("a")), api.ErrArg)
		if old, _ := o.Last(e.Client); old > 0 {
			refused(t, o, entry(e.Index, e.Client, old, put("a", "never")), api.ErrOld)
		}
		want, _ := l.Result(e.Index)
		taken(t, o, e, want)
		begins(t, o, l, true)
	}
	begins(t, l, o, true)
	begins(t, l, l, true)
	stands(t, l, all)
	stands(t, o, all)
}

// P11.5: each client's Seqs rise, and each log begins itself, and what comes of it, whatever one tries to append.
func TestRises(t *testing.T) {
	l := made(t)
	first := l.Copy()
	took := 0
	for i := range 3000 {
		was := l.Copy()
		_, f := l.Append(entry(l.Len()+1, i*7%6, i*13%97, put("k", "v")))
		if f == api.OK {
			took++
		}
		begins(t, was, l, true)
		begins(t, l, was, f != api.OK)
		begins(t, l, l, true)
		begins(t, first, l, true)
	}
	seqs := make([]int, api.MaxClients)
	for i, e := range l.Entries() {
		if e.Index != i+1 || e.Seq <= seqs[e.Client] {
			t.Errorf("the entry at %d: %v, behind the Seq %d", i, e, seqs[e.Client])
		}
		seqs[e.Client] = e.Seq
	}
	for client, seq := range seqs {
		if seq != 96 {
			t.Errorf("the client %d came to %d", client, seq)
		}
	}
	if l.Len() != took || took < 12 {
		t.Errorf("%d were taken, %d stand there", took, l.Len())
	}
}

// R4: what is handed in is not looked at later.
func TestAppendKeeps(t *testing.T) {
	l := made(t)
	e := entry(1, 0, 1, put("k", "v"))
	taken(t, l, e, api.Result{Code: api.ReOK, Version: 1, At: 1})
	e.Seq, e.Op.Value = 9, "changed"
	stands(t, l, []api.Entry{entry(1, 0, 1, put("k", "v"))})
	got, _ := l.At(1)
	got.Op.Key = "changed"
	stands(t, l, []api.Entry{entry(1, 0, 1, put("k", "v"))})
}

// The chapter's examples.
func TestExamples(t *testing.T) {
	l := made(t)
	taken(t, l, entry(1, 0, 3, put("k", "v")), api.Result{Code: api.ReOK, Version: 1, At: 1})
	refused(t, l, entry(3, 0, 4, put("k", "v")), api.ErrOrder)
	refused(t, l, entry(2, 0, 3, put("k", "v")), api.ErrOld)
	refused(t, l, entry(2, 1, 1, get("k")), api.ErrArg)
	lasts(t, l, 0, 3, 1)
	looked(t, l, "k", api.Result{Code: api.ReOK, Value: "v", Version: 1, At: 1})
}
