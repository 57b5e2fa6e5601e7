package slots

import (
	"math"
	"strings"
	"sync"
	"testing"

	"fairway/api"
)

var (
	done     = api.Outcome{Kind: api.OuDone, Result: api.Result{Code: api.ReOK, Value: "a", Version: 3, At: 4}}
	rejected = api.Outcome{Kind: api.OuRejected, Reason: api.RjOld}
	gaveUp   = api.Outcome{Kind: api.OuGaveUp}
)

// odd is outcomes that may be set, whatever stands in their other fields.
var odd = []api.Outcome{
	done, rejected, gaveUp,
	{Kind: api.OuDone},
	{Kind: api.OuRejected},
	{Kind: api.OuDone, Reason: api.RjBad, Result: api.Result{Code: -1}},
	{Kind: api.OuRejected, Reason: -1, Result: done.Result},
	{Kind: api.OuRejected, Reason: math.MaxInt},
	{Kind: api.OuGaveUp, Reason: math.MinInt, Result: api.Result{Code: math.MaxInt, Value: "\x00\xff", Version: math.MinInt, At: -1}},
	{Kind: api.OuGaveUp, Result: api.Result{Value: strings.Repeat("v", 1000)}},
}

// wrong is kinds that no outcome has that may be set.
var wrong = []int{api.OuNone, 4, 5, 6, 7, -1, -2, -3, 1 << 8, 1<<8 + 1, 1 << 32, 1<<32 + 1, -1 << 32, math.MinInt, math.MinInt + 1, math.MaxInt}

func made(t *testing.T) *Slot {
	t.Helper()
	s := New()
	if s == nil {
		t.Fatal("New: nil")
	}
	return s
}

func set(t *testing.T, s *Slot, o api.Outcome, want bool) {
	t.Helper()
	if got := s.Set(o); got != want {
		t.Errorf("Set(%v): %t", o, got)
	}
}

// is holds what a slot tells against what was set.
func is(t *testing.T, s *Slot, want api.Outcome) {
	t.Helper()
	if o, ok := s.Get(); o != want || !ok {
		t.Errorf("Get: %v, %t, not %v", o, ok, want)
	}
}

func empty(t *testing.T, s *Slot) {
	t.Helper()
	if o, ok := s.Get(); o != (api.Outcome{}) || ok {
		t.Errorf("Get: %v, %t, of a slot without an outcome", o, ok)
	}
}

// P8.1, P8.2: each new one is another slot, without an outcome.
func TestNew(t *testing.T) {
	s, other := made(t), made(t)
	empty(t, s)
	empty(t, s)
	set(t, s, done, true)
	empty(t, other)
	set(t, other, gaveUp, true)
	is(t, s, done)
	is(t, other, gaveUp)
	empty(t, made(t))
}

// P8.1, P8.2: it is set, whatever its fields are, and told as it is.
func TestSet(t *testing.T) {
	for _, o := range odd {
		s := made(t)
		set(t, s, o, true)
		is(t, s, o)
		is(t, s, o)
	}
}

// P8.1, P8.4: one was set: nothing is done, be it the same one or another one.
func TestSetOnce(t *testing.T) {
	for _, first := range odd {
		s := made(t)
		set(t, s, first, true)
		for _, o := range odd {
			set(t, s, o, false)
			is(t, s, first)
		}
		for _, kind := range wrong {
			set(t, s, api.Outcome{Kind: kind, Reason: 9}, false)
			is(t, s, first)
		}
	}
}

// P8.1: of another kind none is set, and one may still be.
func TestSetRefuses(t *testing.T) {
	for _, kind := range wrong {
		s := made(t)
		for _, o := range odd {
			o.Kind = kind
			set(t, s, o, false)
			empty(t, s)
		}
		set(t, s, rejected, true)
		is(t, s, rejected)
	}
}

// R4: what was handed in is not looked at later, and what is told is the caller's own.
func TestSetKeepsNothing(t *testing.T) {
	s := made(t)
	o := done
	set(t, s, o, true)
	o.Kind, o.Result.Value = api.OuGaveUp, "b"
	is(t, s, done)
	o, _ = s.Get()
	o.Reason, o.Result.At = 7, 0
	is(t, s, done)
}

// P8.4: several that set it at once: one of them does, and all are told the same then.
func TestSetBySeveral(t *testing.T) {
	for range 200 {
		s := made(t)
		var set [8]bool
		var told [8]api.Outcome
		var w sync.WaitGroup
		for i := range set {
			w.Go(func() {
				set[i] = s.Set(api.Outcome{Kind: 1 + i%3, Reason: i})
				told[i], _ = s.Get()
			})
		}
		w.Wait()
		o, ok := s.Get()
		if !ok {
			t.Fatal("nothing was set")
		}
		for i := range set {
			if set[i] != (o.Reason == i) {
				t.Errorf("Set of %d: %t, and %d is told", i, set[i], o.Reason)
			}
			if told[i] != o {
				t.Errorf("%v was told behind Set, and later %v", told[i], o)
			}
		}
	}
}

// P8.2, P8.4: who asks while it is set is told nothing, or what is told ever after.
func TestGetWhileSet(t *testing.T) {
	for range 200 {
		s := made(t)
		var w sync.WaitGroup
		for range 4 {
			w.Go(func() { follow(t, s) })
		}
		for i := range 2 {
			w.Go(func() { s.Set(odd[i]) })
		}
		w.Wait()
	}
}

func follow(t *testing.T, s *Slot) {
	var first api.Outcome
	for range 50 {
		o, ok := s.Get()
		if ok && first.Kind == api.OuNone {
			first = o
		}
		if o != first || ok != (first.Kind != api.OuNone) || ok && o != odd[0] && o != odd[1] {
			t.Errorf("Get: %v, %t, behind %v", o, ok, first)
		}
	}
}

// P8.1, P8.2, P8.4: whatever is set, and however often.
func TestWalk(t *testing.T) {
	for n := range 300 {
		s := made(t)
		var first api.Outcome
		seed := uint32(n)
		for range 30 {
			seed = seed*1664525 + 1013904223
			o := api.Outcome{Kind: int(seed>>24)%24 - 10, Reason: int(seed >> 8 % 11)}
			want := first.Kind == api.OuNone && o.Kind >= 1 && o.Kind <= 3
			set(t, s, o, want)
			if want {
				first = o
			}
			if got, ok := s.Get(); got != first || ok != (first.Kind != api.OuNone) {
				t.Fatalf("Get: %v, %t, not %v", got, ok, first)
			}
		}
	}
}

// P8.1, P8.2: the chapter's example.
func TestExample(t *testing.T) {
	s := made(t)
	empty(t, s)
	set(t, s, api.Outcome{Kind: api.OuNone}, false)
	set(t, s, api.Outcome{Kind: api.OuGaveUp}, true)
	set(t, s, api.Outcome{Kind: api.OuDone}, false)
	is(t, s, api.Outcome{Kind: api.OuGaveUp})
}

// P8.3, R1, R3: those that are none tell nothing, and nothing is done to them.
func TestNone(t *testing.T) {
	for _, s := range []*Slot{nil, {}, new(Slot)} {
		for range 2 {
			empty(t, s)
			for _, o := range odd {
				set(t, s, o, false)
				empty(t, s)
			}
			for _, kind := range wrong {
				set(t, s, api.Outcome{Kind: kind}, false)
				empty(t, s)
			}
		}
		if s != nil && s.outcome != (api.Outcome{}) {
			t.Errorf("something was done: %v", s.outcome)
		}
	}
}
