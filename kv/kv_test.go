package kv

import (
	"math"
	"slices"
	"strings"
	"testing"

	"fairway/api"
)

// behind is numbers of entries behind which one may look: whatever they are, they are told as they stand.
var behind = []int{0, 1, 7, 4096, 4097, -1, -4097, 1 << 32, math.MaxInt, math.MinInt}

// beyond are indices that no entry has.
var beyond = []int{0, -1, -2, -4096, 4097, 4098, 1 << 16, 1 << 32, 1<<32 + 1, api.MaxNumber, math.MaxInt, math.MinInt, math.MinInt + 1}

// text is a text of n bytes.
func text(n int) string { return strings.Repeat("x", n) }

func get(key string) api.Op { return api.Op{Kind: api.OpGet, Key: key} }

func put(key, value string) api.Op { return api.Op{Kind: api.OpPut, Key: key, Value: value} }

func drop(key string) api.Op { return api.Op{Kind: api.OpDelete, Key: key} }

func swap(key, value string, version int) api.Op {
	return api.Op{Kind: api.OpSwap, Key: key, Value: value, Version: version}
}

// done is what is told of an entry that gave the key a value.
func done(index int) api.Result {
	return api.Result{Code: api.ReOK, Version: index, At: index}
}

// gone is what is told of an entry that took the key out.
func gone(index int) api.Result { return api.Result{Code: api.ReOK, At: index} }

func missing(at int) api.Result { return api.Result{Code: api.ReMissing, At: at} }

func has(value string, version, at int) api.Result {
	return api.Result{Code: api.ReOK, Value: value, Version: version, At: at}
}

// other is what is told of a swap that asked for another version.
func other(value string, version, at int) api.Result {
	return api.Result{Code: api.ReVersion, Value: value, Version: version, At: at}
}

// row is a key of a store, and what it has.
type row struct {
	key, value string
	version    int
}

// plain is a store by another way: rows, in any order.
type plain []row

// find is where the key's row is; -1: nowhere.
func (p plain) find(key string) int {
	return slices.IndexFunc(p, func(r row) bool { return r.key == key })
}

// look is what a key has.
func (p plain) look(key string, at int) api.Result {
	if i := p.find(key); i >= 0 {
		return has(p[i].value, p[i].version, at)
	}
	return missing(at)
}

// apply is what an operation that may be leads to, and what it tells.
func (p plain) apply(index int, o api.Op) (plain, api.Result) {
	i := p.find(o.Key)
	version := 0
	if i >= 0 {
		version = p[i].version
	}
	if o.Kind == api.OpGet {
		return p, p.look(o.Key, index)
	}
	if o.Kind == api.OpDelete && i < 0 {
		return p, missing(index)
	}
	if o.Kind == api.OpSwap && o.Version != version {
		was := p.look(o.Key, index)
		return p, other(was.Value, was.Version, index)
	}
	var left plain
	for _, r := range p {
		if r.key != o.Key {
			left = append(left, r)
		}
	}
	if o.Kind == api.OpDelete {
		return left, gone(index)
	}
	return append(left, row{o.Key, o.Value, index}), done(index)
}

func made(t *testing.T) *Store {
	t.Helper()
	s := New()
	if s == nil {
		t.Fatal("New: nil")
	}
	return s
}

// filled is a store with these rows.
func filled(t *testing.T, p plain) *Store {
	t.Helper()
	s := made(t)
	for _, r := range p {
		applied(t, s, r.version, put(r.key, r.value), done(r.version))
	}
	return s
}

// applied holds what is told of an entry against what it should do.
func applied(t *testing.T, s *Store, index int, o api.Op, want api.Result) {
	t.Helper()
	if r := s.Apply(index, o); r != want {
		t.Errorf("Apply(%d, %.60v): %v, not %v", index, o, r, want)
	}
}

func looked(t *testing.T, s *Store, key string, at int, want api.Result) {
	t.Helper()
	if r := s.Look(key, at); r != want {
		t.Errorf("Look(%.40q, %d): %v, not %v", key, at, r, want)
	}
}

// stands holds all that a store tells without a change against these rows.
func stands(t *testing.T, s *Store, p plain) {
	t.Helper()
	var keys []string
	for i, r := range p {
		keys = append(keys, r.key)
		looked(t, s, r.key, i, has(r.value, r.version, i))
	}
	slices.Sort(keys)
	if s.Size() != len(p) || !slices.Equal(s.Keys(), keys) {
		t.Errorf("Size, Keys: %d, %q, not %d, %q", s.Size(), s.Keys(), len(p), keys)
	}
	for _, key := range []string{"", "missing", text(16), text(17), text(1 << 16)} {
		if p.find(key) < 0 {
			looked(t, s, key, 3, missing(3))
		}
	}
}

// same holds Same against what it should tell, whichever stands ahead.
func same(t *testing.T, a, b *Store, want bool) {
	t.Helper()
	if Same(a, b) != want || Same(b, a) != want {
		t.Errorf("Same: %t, %t, not %t", Same(a, b), Same(b, a), want)
	}
}

// P10.1, P10.3: each new one is another store, without keys.
func TestNew(t *testing.T) {
	s, o := made(t), made(t)
	stands(t, s, nil)
	applied(t, s, 1, put("k", "v"), done(1))
	stands(t, o, nil)
	stands(t, made(t), nil)
	stands(t, s, plain{{"k", "v", 1}})
}

// P10.1: what the key has, and At as it is asked, whatever it is.
func TestLook(t *testing.T) {
	p := plain{{"k", "v", 4}, {"empty", "", 2}, {"\x00", "\xff", 4096}, {text(16), text(64), 1}}
	s := filled(t, p)
	for _, at := range behind {
		for _, r := range p {
			looked(t, s, r.key, at, has(r.value, r.version, at))
		}
		for _, key := range []string{"", "K", "kk", "k\x00", "\x00\x00", "v", text(15), text(17), text(1 << 20)} {
			looked(t, s, key, at, missing(at))
		}
	}
	stands(t, s, p)
}

// P10.2 (OpPut): the value and the version of a key that was there, and of one that was not; what is told has no value.
func TestPut(t *testing.T) {
	s := made(t)
	applied(t, s, 3, put("k", "v"), done(3))
	looked(t, s, "k", 3, has("v", 3, 3))
	applied(t, s, 4, put("k", "w"), done(4))
	looked(t, s, "k", 9, has("w", 4, 9))
	applied(t, s, 5, put("k", "w"), done(5))
	looked(t, s, "k", 9, has("w", 5, 9))
	applied(t, s, 6, put("k", ""), done(6))
	looked(t, s, "k", 9, has("", 6, 9))
	applied(t, s, 6, put("k", "z"), done(6))
	looked(t, s, "k", 9, has("z", 6, 9))
	applied(t, s, 2, put("k", "u"), done(2))
	stands(t, s, plain{{"k", "u", 2}})
}

// P10.2 (OpDelete): of a key that is there, that is not, that is not any more, that is again.
func TestDelete(t *testing.T) {
	s := made(t)
	applied(t, s, 1, drop("k"), missing(1))
	stands(t, s, nil)
	applied(t, s, 2, put("k", "v"), done(2))
	applied(t, s, 3, drop("k"), gone(3))
	stands(t, s, nil)
	applied(t, s, 4, drop("k"), missing(4))
	applied(t, s, 4, get("k"), missing(4))
	applied(t, s, 5, put("k", ""), done(5))
	stands(t, s, plain{{"k", "", 5}})
	applied(t, s, 6, drop("k"), gone(6))
	stands(t, s, nil)
}

// P10.2 (OpSwap): of a key that is there, by its version and by others.
func TestSwap(t *testing.T) {
	for _, version := range []int{1, 2, 5, 245, 4095, 4096} {
		for _, ask := range []int{0, 1, 2, 3, 5, 6, 245, 246, 4094, 4095, 4096} {
			s := filled(t, plain{{"k", "v", version}})
			if ask != version {
				applied(t, s, 7, swap("k", "w", ask), other("v", version, 7))
				stands(t, s, plain{{"k", "v", version}})
				continue
			}
			applied(t, s, 7, swap("k", "w", ask), done(7))
			stands(t, s, plain{{"k", "w", 7}})
		}
	}
	s := filled(t, plain{{"k", "", 3}})
	applied(t, s, 4, swap("k", "", 0), other("", 3, 4))
	applied(t, s, 4, swap("k", "", 3), done(4))
	stands(t, s, plain{{"k", "", 4}})
}

// P10.2 (OpSwap): of a key that is not there, or not any more: its version is 0.
func TestSwapMissing(t *testing.T) {
	for _, ask := range []int{1, 2, 3, 7, 4095, 4096} {
		s := made(t)
		applied(t, s, 7, swap("k", "w", ask), other("", 0, 7))
		stands(t, s, nil)
		applied(t, s, 8, swap("k", "w", 0), done(8))
		stands(t, s, plain{{"k", "w", 8}})
		applied(t, s, 9, drop("k"), gone(9))
		applied(t, s, 10, swap("k", "z", 8), other("", 0, 10))
		applied(t, s, 10, swap("k", "z", ask), other("", 0, 10))
		stands(t, s, nil)
		applied(t, s, 10, swap("k", "z", 0), done(10))
		stands(t, s, plain{{"k", "z", 10}})
	}
}

// P10.2 (OpGet): as Look, and nothing changes.
func TestGet(t *testing.T) {
	s := filled(t, plain{{"k", "v", 9}})
	for _, index := range []int{1, 2, 9, 4095, 4096} {
		applied(t, s, index, get("k"), has("v", 9, index))
		applied(t, s, index, get("m"), missing(index))
	}
	stands(t, s, plain{{"k", "v", 9}})
}

// P10.2: the first index and the last one may be, those beyond may not.
func TestApplyIndex(t *testing.T) {
	for _, index := range []int{1, 2, 4095, 4096} {
		s := made(t)
		applied(t, s, index, put("k", "v"), done(index))
		applied(t, s, index, get("k"), has("v", index, index))
		applied(t, s, index, swap("k", "w", index), done(index))
		applied(t, s, index, swap("m", "w", 1), other("", 0, index))
		stands(t, s, plain{{"k", "w", index}})
		applied(t, s, index, drop("k"), gone(index))
		applied(t, s, index, drop("k"), missing(index))
	}
	p := plain{{"k", "v", 2}, {"m", "", 1}}
	s := filled(t, p)
	for _, index := range beyond {
		for _, key := range []string{"k", "m", "z"} {
			for _, o := range []api.Op{get(key), put(key, "w"), drop(key), swap(key, "w", 0), swap(key, "w", 1), swap(key, "w", 2)} {
				applied(t, s, index, o, api.Result{})
			}
		}
	}
	stands(t, s, p)
}

// P10.2: what may not be, and what is too long, tells nothing, and does nothing.
func TestApplyRefuses(t *testing.T) {
	p := plain{{"k", "v", 2}, {text(16), text(64), 1}}
	s := filled(t, p)
	for _, o := range []api.Op{
		{}, {Key: "k"}, {Kind: -1, Key: "k"}, {Kind: 5, Key: "k", Value: "w"}, {Kind: math.MaxInt, Key: "k"}, {Kind: math.MinInt, Key: "k"}, {Kind: 1<<32 + 2, Key: "k", Value: "w"},
		get(""), put("", "w"), drop(""), swap("", "w", 0),
		get(text(17)), put(text(17), "w"), drop(text(17)), swap(text(17), "w", 0),
		put("k", text(65)), swap("k", text(65), 2), put("z", text(65)), swap("z", text(65), 0),
		swap("k", "w", -1), swap("k", "w", 4097), swap("k", "w", math.MinInt), swap("z", "w", math.MaxInt), swap("k", "w", 1<<32+2),
		{Kind: api.OpGet, Key: "k", Value: "v"}, {Kind: api.OpGet, Key: "k", Version: 2}, {Kind: api.OpPut, Key: "k", Value: "w", Version: 2},
		{Kind: api.OpDelete, Key: "k", Value: "v"}, {Kind: api.OpDelete, Key: "k", Version: 2}, {Kind: api.OpPut, Key: "z", Version: -1},
	} {
		for _, index := range append([]int{1, 3, 4096}, beyond...) {
			applied(t, s, index, o, api.Result{})
		}
	}
	stands(t, s, p)
}

// P10.2: keys and values as long as they may be, and of any bytes.
func TestApplyTexts(t *testing.T) {
	p := plain{{text(16), text(64), 1}, {text(15), text(63), 2}, {"\x00", "\x00", 3}, {"\x00\x00", "\xff\xfe", 4}, {"\u4e16", "\u00e4", 5}, {"\xff", strings.Repeat("\u00e4", 32), 6}}
	s := made(t)
	for _, r := range p {
		applied(t, s, r.version, swap(r.key, r.value, 0), done(r.version))
	}
	stands(t, s, p)
	for i, r := range p {
		applied(t, s, 9, swap(r.key, "", 9), other(r.value, r.version, 9))
		applied(t, s, 9, drop(r.key), gone(9))
		stands(t, s, p[i+1:])
	}
}

// P10.3 (Size, Keys): these, rising by their bytes, and the list is the caller's own.
func TestKeys(t *testing.T) {
	s := made(t)
	rising := []string{"\x00", "\x00\x01", "A", "Z", "a", "a\x00", "aa", "ab", "b", "ba", "m", "z", "\x7f", "\x80", "\u00e4", "\u4e16", "\xff"}
	for i, key := range []string{"z", "b", "\xff", "a", "\x00", "ab", "\u4e16", "m", "Z", "a\x00", "\x7f", "A", "aa", "\x80", "ba", "\u00e4", "\x00\x01"} {
		applied(t, s, i+1, put(key, ""), done(i+1))
		if s.Size() != i+1 {
			t.Errorf("Size: %d, not %d", s.Size(), i+1)
		}
	}
	for range 3 {
		l := s.Keys()
		if !slices.Equal(l, rising) || s.Size() != len(rising) {
			t.Errorf("Keys: %q, Size %d", l, s.Size())
		}
		clear(l[:cap(l)])
	}
	applied(t, s, 30, put("m", "again"), done(30))
	if l := s.Keys(); !slices.Equal(l, rising) {
		t.Errorf("Keys: %q, of a key that was put twice", l)
	}
	for i, key := range rising {
		applied(t, s, 31, drop(key), gone(31))
		if l := s.Keys(); !slices.Equal(l, rising[i+1:]) || s.Size() != len(l) {
			t.Errorf("Keys: %q, Size %d", l, s.Size())
		}
	}
}

// P10.3 (Copy): the same, and each of both goes on by itself.
func TestCopy(t *testing.T) {
	p := plain{{"a", "x", 1}, {"b", "", 2}, {"c", "z", 3}}
	for _, o := range []api.Op{put("a", "x"), put("a", "y"), put("d", "x"), drop("b"), swap("c", "w", 3), swap("d", "", 0)} {
		s := filled(t, p)
		c := s.Copy()
		same(t, s, c, true)
		q, want := p.apply(9, o)
		applied(t, c, 9, o, want)
		stands(t, c, q)
		stands(t, s, p)
		same(t, s, c, false)
		d := c.Copy()
		applied(t, c, 10, put("e", "v"), done(10))
		stands(t, d, q)
		applied(t, s, 9, o, want)
		stands(t, s, q)
		same(t, s, d, true)
	}
}

// P10.3 (Copy): of one without keys another one is told, that takes some.
func TestCopyEmpty(t *testing.T) {
	s := made(t)
	c := s.Copy()
	if c == nil || c == s {
		t.Fatal("Copy of a store without keys")
	}
	same(t, s, c, true)
	stands(t, c, nil)
	applied(t, c, 1, put("k", "v"), done(1))
	stands(t, c, plain{{"k", "v", 1}})
	stands(t, s, nil)
	same(t, s, c, false)
	applied(t, c, 2, drop("k"), gone(2))
	d := c.Copy()
	applied(t, d, 3, put("m", ""), done(3))
	stands(t, d, plain{{"m", "", 3}})
	same(t, s, c, true)
}

// P10.3 (Same): keys, values and versions, each of them, and nothing else.
func TestSame(t *testing.T) {
	stores := []plain{
		{}, {{"a", "", 1}}, {{"a", "", 2}}, {{"a", "x", 1}}, {{"a", "x", 2}}, {{"b", "x", 1}}, {{"b", "", 1}},
		{{"a", "x", 1}, {"b", "x", 1}}, {{"a", "x", 1}, {"b", "x", 2}}, {{"a", "x", 2}, {"b", "x", 1}}, {{"a", "x", 1}, {"b", "y", 1}}, {{"a", "y", 1}, {"b", "x", 1}}, {{"a", "x", 1}, {"c", "x", 1}}, {{"ab", "x", 1}}, {{"a", "bx", 1}},
		{{"a", "x", 1}, {"b", "x", 2}, {"c", "", 3}},
	}
	for i, p := range stores {
		for j, q := range stores {
			same(t, filled(t, p), filled(t, q), i == j)
		}
		s := filled(t, p)
		same(t, s, s, true)
	}
}

// P10.3 (Same): by what they have, not by how it came there.
func TestSameOtherWay(t *testing.T) {
	p := plain{{"a", "x", 1}, {"b", "", 2}, {"c", "z", 3}}
	back := slices.Clone(p)
	slices.Reverse(back)
	same(t, filled(t, p), filled(t, back), true)
	s := filled(t, append(plain{{"d", "w", 1}, {"a", "old", 7}}, p...))
	same(t, s, filled(t, p), false)
	applied(t, s, 9, drop("d"), gone(9))
	same(t, s, filled(t, p), true)
	// The value as it was, but written by another entry.
	applied(t, s, 9, put("a", "x"), done(9))
	same(t, s, filled(t, p), false)
}

// P10.1 to P10.3: of stores that are none.
func TestNone(t *testing.T) {
	for _, s := range []*Store{nil, {}, new(Store)} {
		for _, at := range behind {
			looked(t, s, "k", at, api.Result{})
			looked(t, s, "", at, api.Result{})
		}
		for _, index := range append([]int{1, 2, 4096}, beyond...) {
			for _, o := range []api.Op{{}, get("k"), put("k", "v"), drop("k"), swap("k", "v", 0), swap("k", "v", 1), put("", "v"), put(text(17), text(65))} {
				applied(t, s, index, o, api.Result{})
			}
		}
		if s.Size() != 0 || len(s.Keys()) != 0 || s.Copy() != nil {
			t.Errorf("Size, Keys, Copy: %d, %q, %v", s.Size(), s.Keys(), s.Copy())
		}
		for _, o := range []*Store{nil, {}, new(Store)} {
			same(t, s, o, true)
		}
		same(t, s, s, true)
		same(t, s, made(t), false)
		same(t, s, filled(t, plain{{"k", "v", 1}}), false)
	}
}

// P10.4: what is applied to one key makes no difference to another one, that may be a part of it, or go with it.
func TestOtherKeys(t *testing.T) {
	keys := []string{"a", "aa", "A", "b", "a\x00", "\x00a", "", text(16), "\u00e4", "v", "3"}
	p := plain{{"a", "v", 1}, {"b", "a", 2}, {"aa", "b", 3}, {text(16), "", 4}}
	for _, key := range keys {
		for _, index := range []int{1, 2, 3, 4, 5, 4096} {
			for _, o := range []api.Op{get(key), put(key, "w"), drop(key), swap(key, "w", 0), swap(key, "w", 1), swap(key, "w", 2), swap(key, "w", 3)} {
				s := filled(t, p)
				s.Apply(index, o)
				for _, k := range keys {
					if k != key {
						looked(t, s, k, 8, p.look(k, 8))
					}
				}
			}
		}
	}
}

// P10.4: a swap with the version that Look told, as the next entry, is done, whatever was done ahead of it.
func TestSwapAsLooked(t *testing.T) {
	s := made(t)
	key := []string{"a", "b", "aa"}
	var p plain
	for index := 1; index < 4096; index += 2 {
		k := key[index%3]
		o := []api.Op{put(k, "v"), drop(k), swap(k, "w", index-6), get(k)}[index/2%4]
		if o.Version < 0 {
			o.Version = 0
		}
		var want api.Result
		p, want = p.apply(index, o)
		applied(t, s, index, o, want)
		k = key[index/3%3]
		o = swap(k, "s", s.Look(k, index).Version)
		applied(t, s, index+1, o, done(index+1))
		p, _ = p.apply(index+1, o)
		stands(t, s, p)
	}
}

// P10.1 to P10.4: whatever entries of few keys and values there are, one behind the other, against plain rows.
func TestWalks(t *testing.T) {
	var all []api.Op
	for _, key := range []string{"a", "b"} {
		all = append(all, get(key), drop(key), put(key, ""), put(key, "v"))
		for version := range 4 {
			all = append(all, swap(key, "w", version))
		}
	}
	var walk func(s *Store, p plain, index int)
	walk = func(s *Store, p plain, index int) {
		stands(t, s, p)
		if index > 4 || t.Failed() {
			return
		}
		for _, o := range all {
			c := s.Copy()
			q, want := p.apply(index, o)
			applied(t, c, index, o, want)
			walk(c, q, index+1)
			same(t, c, s, slices.Equal(q, p))
		}
	}
	walk(made(t), nil, 1)
}

// P10.2, P10.3: as many keys as a log may write, each with a version of its own, and none of them again.
func TestMany(t *testing.T) {
	s := made(t)
	name := func(i int) string { return string([]byte{byte(i >> 8), byte(i)}) }
	for i := 1; i <= api.MaxLog; i++ {
		applied(t, s, i, put(name(i), name(i+1)), done(i))
	}
	l := s.Keys()
	if s.Size() != api.MaxLog || len(l) != api.MaxLog || !slices.IsSorted(l) || l[0] != name(1) || l[api.MaxLog-1] != name(api.MaxLog) {
		t.Fatalf("Size %d, %d keys", s.Size(), len(l))
	}
	c := s.Copy()
	same(t, s, c, true)
	for i := 1; i <= api.MaxLog; i++ {
		looked(t, s, name(i), i, has(name(i+1), i, i))
		applied(t, c, i, drop(name(i)), gone(i))
	}
	stands(t, c, nil)
	if s.Size() != api.MaxLog {
		t.Errorf("Size: %d", s.Size())
	}
}

// The chapter's examples.
func TestExamples(t *testing.T) {
	s := made(t)
	applied(t, s, 1, put("k", "v"), done(1))
	applied(t, s, 2, swap("k", "w", 0), other("v", 1, 2))
	applied(t, s, 2, swap("k", "w", 1), done(2))
	looked(t, s, "k", 7, has("w", 2, 7))
	applied(t, s, 3, drop("k"), gone(3))
	applied(t, s, 3, drop("k"), missing(3))
}
