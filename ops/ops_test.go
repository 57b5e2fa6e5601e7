package ops

import (
	"math"
	"strings"
	"testing"

	"fairway/api"
	"fairway/codec"
)

var (
	kinds    = []int{api.OpGet, api.OpPut, api.OpDelete, api.OpSwap, 0, -1, -2, 5, 6, 1<<8 + 1, 1<<32 + 1, 1<<32 + 4, api.MaxNumber, api.MaxNumber + 1, math.MaxInt, math.MinInt, math.MinInt + 1}
	versions = []int{0, 1, 2, 7, 245, 246, 247, 254, 255, 256, 4095, 4096, -1, -2, 4097, 4098, 1 << 32, 1<<32 + 1, api.MaxNumber, api.MaxNumber + 1, math.MaxInt, math.MinInt}
	keys     = []string{"", "k", "kk", "\x00", "\xff\xfe", "\u00e4\u4e16", text(15), text(16), text(17), text(18), text(255), text(256), text(1 << 16), strings.Repeat("\u4e16", 6)}
	values   = []string{"", "v", "\x00", "\x01k", "\xf8", text(63), text(64), text(65), text(66), text(247), text(248), text(1 << 16), strings.Repeat("\u4e16", 22)}
)

// text is a text of n bytes.
func text(n int) string { return strings.Repeat("x", n) }

// every is all operations that can be made of what stands above.
func every(f func(o api.Op)) {
	for _, kind := range kinds {
		for _, key := range keys {
			for _, value := range values {
				for _, version := range versions {
					f(api.Op{Kind: kind, Key: key, Value: value, Version: version})
				}
			}
		}
	}
}

// want is what Check tells, by what an operation of each kind may be.
func want(o api.Op) api.Errno {
	value, most := 0, 0
	switch o.Kind {
	case 1, 3:
	case 2:
		value = math.MaxInt
	case 4:
		value, most = math.MaxInt, 4096
	default:
		return api.ErrArg
	}
	switch {
	case len(o.Key) < 1, len(o.Value) > value, o.Version < 0, o.Version > most:
		return api.ErrArg
	case len(o.Key) >= 17, len(o.Value) >= 65:
		return api.ErrLong
	}
	return api.OK
}

// form is an operation's bytes, by its kind.
func form(o api.Op) string {
	s := string([]byte{byte(o.Kind + 1), byte(len(o.Key))}) + o.Key
	switch o.Kind {
	case 2:
		return s + string([]byte{byte(len(o.Value))}) + o.Value
	case 4:
		return s + string([]byte{byte(len(o.Value))}) + o.Value + codec.Int(o.Version)
	}
	return s
}

// refused asks that an operation counts for nothing, and has no bytes, but the error.
func refused(t *testing.T, o api.Op, e api.Errno) {
	t.Helper()
	if got := Check(o); got != e {
		t.Errorf("Check(%.40v): %v, not %v", o, got, e)
	}
	if n := Cost(o); n != 0 {
		t.Errorf("Cost(%.40v): %d", o, n)
	}
	if Reads(o) {
		t.Errorf("Reads(%.40v)", o)
	}
	if s, got := Put(o); s != "" || got != e {
		t.Errorf("Put(%.40v): %.40q, %v, not %v", o, s, got, e)
	}
}

// taken asks what is told of an operation that may be, and of its bytes.
func taken(t *testing.T, o api.Op, s string) {
	t.Helper()
	if e := Check(o); e != api.OK {
		t.Errorf("Check(%v): %v", o, e)
	}
	if n := Cost(o); n != 16+len(o.Key)+len(o.Value) || n > api.MaxCost {
		t.Errorf("Cost(%v): %d", o, n)
	}
	if got := Reads(o); got != (o.Kind == api.OpGet) {
		t.Errorf("Reads(%v): %t", o, got)
	}
	if got, e := Put(o); got != s || e != api.OK {
		t.Errorf("Put(%v): %q, %v, not %q", o, got, e, s)
	}
	if got, e := Get(s); got != o || e != api.OK {
		t.Errorf("Get(%q): %v, %v, not %v", s, got, e, o)
	}
}

// noGet asks that the bytes are no operation's.
func noGet(t *testing.T, s string) {
	t.Helper()
	if o, e := Get(s); o != (api.Op{}) || e != api.ErrForm {
		t.Errorf("Get(%.40q): %v, %v", s, o, e)
	}
}

// P9.1: what may be, up to the ends.
func TestCheckTakes(t *testing.T) {
	for _, o := range []api.Op{
		{Kind: api.OpGet, Key: "k"}, {Kind: api.OpDelete, Key: "k"}, {Kind: api.OpPut, Key: "k", Value: "v"}, {Kind: api.OpPut, Key: "k"},
		{Kind: api.OpSwap, Key: "k", Value: "v"}, {Kind: api.OpSwap, Key: "k"}, {Kind: api.OpSwap, Key: "k", Version: 1}, {Kind: api.OpSwap, Key: "k", Value: "v", Version: 4096},
		{Kind: api.OpGet, Key: text(16)}, {Kind: api.OpDelete, Key: text(16)}, {Kind: api.OpPut, Key: text(16), Value: text(64)}, {Kind: api.OpSwap, Key: text(16), Value: text(64), Version: 4096},
		{Kind: api.OpGet, Key: "\x00"}, {Kind: api.OpPut, Key: "\xff\xfe", Value: "\x80"},
	} {
		if e := Check(o); e != api.OK {
			t.Errorf("Check(%v): %v", o, e)
		}
	}
}

// P9.1, P9.2, P9.3: what may not be.
func TestCheckRefuses(t *testing.T) {
	for _, o := range []api.Op{
		{}, {Key: "k"}, {Kind: -1, Key: "k"}, {Kind: 5, Key: "k"}, {Kind: math.MaxInt, Key: "k"}, {Kind: math.MinInt, Key: "k"}, {Kind: 1<<32 + 1, Key: "k"},
		{Kind: api.OpGet}, {Kind: api.OpPut, Value: "v"}, {Kind: api.OpDelete}, {Kind: api.OpSwap, Value: "v", Version: 1},
		{Kind: api.OpSwap, Key: "k", Version: -1}, {Kind: api.OpSwap, Key: "k", Version: 4097}, {Kind: api.OpSwap, Key: "k", Version: math.MinInt}, {Kind: api.OpSwap, Key: "k", Version: math.MaxInt}, {Kind: api.OpSwap, Key: "k", Version: 1 << 32},
		{Kind: api.OpGet, Key: "k", Version: 1}, {Kind: api.OpPut, Key: "k", Value: "v", Version: 1}, {Kind: api.OpDelete, Key: "k", Version: 4096}, {Kind: api.OpPut, Key: "k", Version: -1},
		{Kind: api.OpGet, Key: "k", Value: "v"}, {Kind: api.OpDelete, Key: "k", Value: "\x00"},
	} {
		refused(t, o, api.ErrArg)
	}
	for _, o := range []api.Op{
		{Kind: api.OpGet, Key: text(17)}, {Kind: api.OpPut, Key: text(17)}, {Kind: api.OpDelete, Key: text(17)}, {Kind: api.OpSwap, Key: text(17)}, {Kind: api.OpGet, Key: text(1 << 20)},
		{Kind: api.OpPut, Key: "k", Value: text(65)}, {Kind: api.OpSwap, Key: "k", Value: text(65)}, {Kind: api.OpPut, Key: text(17), Value: text(65)}, {Kind: api.OpSwap, Key: "k", Value: text(1 << 20), Version: 4096},
		{Kind: api.OpPut, Key: strings.Repeat("\u4e16", 6)}, {Kind: api.OpPut, Key: "k", Value: strings.Repeat("\u4e16", 22)},
	} {
		refused(t, o, api.ErrLong)
	}
}

// P9.1: what may not be is told ahead of what is too long.
func TestCheckOrder(t *testing.T) {
	for _, o := range []api.Op{
		{Key: text(17)}, {Kind: 5, Key: text(17), Value: text(65)}, {Kind: api.OpPut, Value: text(65)}, {Kind: api.OpSwap, Value: text(65)},
		{Kind: api.OpGet, Key: text(17), Value: "v"}, {Kind: api.OpDelete, Key: text(17), Value: "v"}, {Kind: api.OpGet, Key: "k", Value: text(65)}, {Kind: api.OpDelete, Key: "k", Value: text(65)},
		{Kind: api.OpGet, Key: text(17), Version: 1}, {Kind: api.OpPut, Key: text(17), Version: 1}, {Kind: api.OpPut, Key: "k", Value: text(65), Version: 1}, {Kind: api.OpSwap, Key: text(17), Version: -1}, {Kind: api.OpSwap, Key: "k", Value: text(65), Version: 4097},
	} {
		refused(t, o, api.ErrArg)
	}
}

// P9.2: 16 and the bytes, not the runes; 96 at most.
func TestCost(t *testing.T) {
	for n, o := range map[int]api.Op{
		17: {Kind: api.OpGet, Key: "k"}, 18: {Kind: api.OpPut, Key: "k", Value: "v"}, 19: {Kind: api.OpDelete, Key: "kkk"}, 20: {Kind: api.OpSwap, Key: "k", Value: "\u4e16", Version: 4096},
		21: {Kind: api.OpGet, Key: "\u4e16\u00e4"}, 32: {Kind: api.OpDelete, Key: text(16)}, 81: {Kind: api.OpPut, Key: "k", Value: text(64)}, 96: {Kind: api.OpPut, Key: text(16), Value: text(64)}, 95: {Kind: api.OpSwap, Key: text(15), Value: text(64)},
	} {
		if got := Cost(o); got != n {
			t.Errorf("Cost(%v): %d, not %d", o, got, n)
		}
	}
}

// P9.2: an OpGet reads, that Check takes; no other one does.
func TestReads(t *testing.T) {
	for _, o := range []api.Op{{Kind: api.OpGet, Key: "k"}, {Kind: api.OpGet, Key: text(16)}} {
		if !Reads(o) {
			t.Errorf("Reads(%v): false", o)
		}
	}
	for _, o := range []api.Op{
		{Kind: api.OpPut, Key: "k"}, {Kind: api.OpDelete, Key: "k"}, {Kind: api.OpSwap, Key: "k"}, {Key: "k"}, {Kind: 5, Key: "k"},
		{Kind: api.OpGet}, {Kind: api.OpGet, Key: "k", Value: "v"}, {Kind: api.OpGet, Key: "k", Version: 1}, {Kind: api.OpGet, Key: text(17)},
	} {
		if Reads(o) {
			t.Errorf("Reads(%v): true", o)
		}
	}
}

// P9.3, P9.4, written out.
func TestBytes(t *testing.T) {
	for s, o := range map[string]api.Op{
		"\x02\x01k":                               {Kind: api.OpGet, Key: "k"},
		"\x02\x01\x00":                            {Kind: api.OpGet, Key: "\x00"},
		"\x04\x02kk":                              {Kind: api.OpDelete, Key: "kk"},
		"\x04\x04\x01k\x01v":                      {Kind: api.OpDelete, Key: "\x01k\x01v"},
		"\x03\x01k\x01v":                          {Kind: api.OpPut, Key: "k", Value: "v"},
		"\x03\x01k\x00":                           {Kind: api.OpPut, Key: "k"},
		"\x03\x02\xf8\xff\x02\x00z":               {Kind: api.OpPut, Key: "\xf8\xff", Value: "\x00z"},
		"\x05\x01k\x01v\x01":                      {Kind: api.OpSwap, Key: "k", Value: "v"},
		"\x05\x01k\x00\x02":                       {Kind: api.OpSwap, Key: "k", Version: 1},
		"\x05\x01k\x01v\xf7":                      {Kind: api.OpSwap, Key: "k", Value: "v", Version: 246},
		"\x05\x01k\x01v\xf8\xf8":                  {Kind: api.OpSwap, Key: "k", Value: "v", Version: 247},
		"\x05\x01k\x00\xf9\x01\x00":               {Kind: api.OpSwap, Key: "k", Version: 255},
		"\x05\x01k\x00\xf9\x10\x01":               {Kind: api.OpSwap, Key: "k", Version: 4096},
		"\x03\x10" + text(16) + "\x40" + text(64): {Kind: api.OpPut, Key: text(16), Value: text(64)},
		"\x05\x10" + text(16) + "\x40" + text(64) + "\xf8\xff": {Kind: api.OpSwap, Key: text(16), Value: text(64), Version: 254},
	} {
		taken(t, o, s)
	}
}

// P9.1 to P9.4: whatever is put together.
func TestEvery(t *testing.T) {
	took := 0
	every(func(o api.Op) {
		if e := want(o); e != api.OK {
			refused(t, o, e)
			return
		}
		took++
		taken(t, o, form(o))
	})
	// Of 7 keys: 1 for OpGet and for OpDelete each, 7 values for OpPut, and 12 versions of each value for OpSwap.
	if n := 7 * (2 + 7 + 7*12); took != n {
		t.Errorf("%d were taken, not %d", took, n)
	}
}

// P9.3: what is cut off, and what has more behind it, is none.
func TestGetWhole(t *testing.T) {
	every(func(o api.Op) {
		if want(o) != api.OK {
			return
		}
		s := form(o)
		for i := range s {
			noGet(t, s[:i])
		}
		for _, more := range []string{"\x00", "\x01", "\x02", "k", "\x01v", "\xf8\xf8", "\xff", s} {
			noGet(t, s+more)
		}
	})
}

// P9.3: bytes of what Check refuses, and numbers and texts of another form.
func TestGetRefuses(t *testing.T) {
	for _, s := range []string{
		"", "\x00", "\x01", "\x02", "\x03", "\x05", "\x06", "\xff", "\xf8",
		"\x00\x01k", "\x01\x01k", "\x06\x01k", "\xf7\x01k", "\xf8\xf8\x01k", "\xfd\x01\x00\x00\x00\x00\x01\x01k", "\xff\xff\xff\xff\xff\xff\xff\xff\xff\x01k",
		"\x00\x01k\x01v", "\x06\x01k\x01v", "\x06\x01k\x01v\x01", "\x06\x01k\x01v\x01\x01",
		"\x02\x00", "\x03\x00\x01v", "\x04\x00", "\x05\x00\x01v\x01",
		"\x02\x01k\x00", "\x02\x01k\x01v", "\x02\x01k\x01", "\x04\x01k\x00", "\x04\x01k\x01v", "\x04\x01k\x00\x01", "\x03\x01k", "\x03\x01k\x01v\x01", "\x05\x01k", "\x05\x01k\x01v",
		"\x02\x11" + text(17), "\x04\x11" + text(17), "\x03\x11" + text(17) + "\x00", "\x03\x01k\x41" + text(65), "\x05\x01k\x41" + text(65) + "\x01", "\x05\x11" + text(17) + "\x00\x01",
		"\x02\xf9\x01\x00" + text(256), "\x03\x01k\xf8\xf8" + text(248),
		"\x05\x01k\x00\x00", "\x05\x01k\x00\xf9\x10\x02", "\x05\x01k\x00\xf9\x20\x01", "\x05\x01k\x00\xfd\x01\x00\x00\x00\x00\x01", "\x05\x01k\x00\xfd\x01\x00\x00\x00\x00\x02", "\x05\x01k\x00\xff\xff\xff\xff\xff\xff\xff\xff\xff",
		"\xf8\x02\x01k", "\xf9\x00\x02\x01k", "\x02\xf8\x01k", "\x02\xf9\x00\x01k", "\x03\x01k\xf8\x01v", "\x05\x01k\x00\xf8\x01", "\x05\x01k\x00\xf9\x00\xf8", "\x05\x01k\x00\xfa\x00\x10\x01",
		"\x02\xff\xff\xff\xff\xff\xff\xff\xff\xffk", "\x02\xff\x80\x00\x00\x00\x00\x00\x00\x01k", "\x03\x01k\xff\xff\xff\xff\xff\xff\xff\xff\xffv", "\x03\x01k\xff\x80\x00\x00\x00\x00\x00\x00\x01v",
		"\x02\x02k", "\x03\x01k\x02v", text(1 << 16), strings.Repeat("\x02\x01k", 3),
	} {
		noGet(t, s)
	}
}

// P9.3, P9.4: an operation with one byte that is another one, or left out, or there twice, is none, or that of just those bytes.
func TestGetChanged(t *testing.T) {
	for _, o := range []api.Op{
		{Kind: api.OpGet, Key: "\x01\x02"}, {Kind: api.OpPut, Key: "\x01\x02", Value: "\x01\x00\x01"}, {Kind: api.OpDelete, Key: "\x01\x01"},
		{Kind: api.OpSwap, Key: "\x01\x02", Value: "\x00\x01\x01", Version: 3}, {Kind: api.OpSwap, Key: "\x02", Value: "\xf8\xf8", Version: 300},
	} {
		s := form(o)
		for i := range s {
			stood(t, s[:i]+s[i+1:])
			stood(t, s[:i+1]+s[i:])
			for b := range 256 {
				stood(t, s[:i]+string([]byte{byte(b)})+s[i+1:])
			}
		}
	}
}

// P9.3, P9.4: whatever few bytes there are.
func TestGetFew(t *testing.T) {
	few := []byte{0, 1, 2, 3, 4, 5, 6, 'k', 0xf7, 0xf8, 0xf9, 0xff}
	var grow func(s string)
	grow = func(s string) {
		stood(t, s)
		if len(s) == 5 {
			return
		}
		for _, b := range few {
			grow(s + string([]byte{b}))
		}
	}
	grow("")
}

// stood holds what is told of bytes against them: an operation whose bytes they are; or none has them.
func stood(t *testing.T, s string) {
	t.Helper()
	o, e := Get(s)
	if e == api.OK {
		if want(o) != api.OK || form(o) != s {
			t.Errorf("Get(%q): %v", s, o)
		}
		taken(t, o, s)
		return
	}
	noGet(t, s)
	if valid(s) {
		t.Errorf("Get(%q): %v", s, e)
	}
}

// valid tells whether bytes are an operation's by another way: where its texts end, the rest is held against all versions there may be.
func valid(s string) bool {
	if len(s) < 2 || s[0] < 2 || s[0] > 5 || s[1] < 1 || s[1] > 16 || len(s) < 2+int(s[1]) {
		return false
	}
	rest := s[2+s[1]:]
	if s[0]%2 == 0 {
		return rest == ""
	}
	if rest == "" || rest[0] > 64 || len(rest) < 1+int(rest[0]) {
		return false
	}
	rest = rest[1+rest[0]:]
	if s[0] == 3 {
		return rest == ""
	}
	switch len(rest) {
	case 1:
		return rest[0] >= 1 && rest[0] <= 247
	case 2:
		return rest[0] == 248 && rest[1] >= 248
	case 3:
		n := int(rest[1])<<8 + int(rest[2])
		return rest[0] == 249 && n >= 256 && n <= 4097
	}
	return false
}

// P9.3, P9.4: each version that an OpSwap may have, and those around them.
func TestVersions(t *testing.T) {
	for n := -3; n < 5000; n++ {
		o := api.Op{Kind: api.OpSwap, Key: "k", Value: "v", Version: n}
		if n >= 0 && n <= 4096 {
			taken(t, o, form(o))
			continue
		}
		refused(t, o, api.ErrArg)
		noGet(t, "\x05\x01k\x01v"+codec.Num(uint64(n+1)))
	}
}

// The chapter's examples.
func TestExamples(t *testing.T) {
	o := api.Op{Kind: api.OpPut, Key: "k", Value: "v"}
	taken(t, o, string([]byte{3, 1, 'k', 1, 'v'}))
	if n := Cost(o); n != 18 {
		t.Errorf("Cost: %d", n)
	}
	refused(t, api.Op{Kind: api.OpGet, Key: "k", Value: "v"}, api.ErrArg)
	refused(t, api.Op{Kind: api.OpPut, Key: "12345678901234567"}, api.ErrLong)
}

// R2: what is told hangs on nothing that was asked ahead.
func TestAgain(t *testing.T) {
	o := api.Op{Kind: api.OpSwap, Key: "k", Value: "v", Version: 7}
	for range 3 {
		taken(t, o, "\x05\x01k\x01v\x08")
		noGet(t, "\x05\x01k\x01v")
		refused(t, api.Op{Kind: api.OpGet, Key: text(17)}, api.ErrLong)
	}
}
