package codec

import (
	"bytes"
	"encoding/binary"
	"math"
	"strings"
	"testing"

	"fairway/api"
)

// behind is what may stand behind some bytes: nothing, and what could be taken for more of them.
func behind() []string {
	return []string{"", "z", "\x00", "\x00\x00", "\x01", "\xf7", "\xf8\xf8", "\xff", "\xff\xff\xff\xff\xff\xff\xff\xff\xff", strings.Repeat("ab", 200)}
}

// numbers are small ones, the ends, and those where a number has one byte more.
func numbers() []uint64 {
	l := []uint64{0, 1, 2, 127, 128, 246, 247, 248, 249, 254, 255, 256, 300, math.MaxUint64, math.MaxUint64 - 1}
	for i := 9; i < 64; i++ {
		n := uint64(1) << i
		l = append(l, n-1, n, n+1, n+0x55)
	}
	return append(l, api.MaxNumber-1, api.MaxNumber, api.MaxNumber+1, api.MaxNumber+2, 0x0102030405060708, 0xff00ff00ff00ff00)
}

// wide is a number's bytes by another way: all eight, and those trimmed that are 0 ahead.
func wide(n uint64) string {
	if n < 248 {
		return string([]byte{byte(n)})
	}
	b := bytes.TrimLeft(binary.BigEndian.AppendUint64(nil, n), "\x00")
	return string([]byte{247 + byte(len(b))}) + string(b)
}

func texts() []string {
	l := []string{"", "a", "ab", "\x00", "\x00\x00\x00", "\xff\xff", "\xf8\x05", "\u00e4\u4e16", "\x01a\x01b"}
	for _, n := range []int{246, 247, 248, 249, 255, 256, 257, 65535, 65536} {
		l = append(l, strings.Repeat("q", n))
	}
	return l
}

// noRead asks that nothing is told of bytes ahead of which no number stands, by none of the three.
func noRead(t *testing.T, s string) {
	t.Helper()
	if n, rest, ok := Read(s); n != 0 || rest != "" || ok {
		t.Errorf("Read(%q): %d, %q, %v", s, n, rest, ok)
	}
	noUnint(t, s)
	noCut(t, s)
}

func noUnint(t *testing.T, s string) {
	t.Helper()
	if n, rest, ok := Unint(s); n != 0 || rest != "" || ok {
		t.Errorf("Unint(%q): %d, %q, %v", s, n, rest, ok)
	}
}

func noCut(t *testing.T, s string) {
	t.Helper()
	if text, rest, ok := Cut(s); text != "" || rest != "" || ok {
		t.Errorf("Cut(%.40q): %.40q, %.40q, %v", s, text, rest, ok)
	}
}

// P2.1 (Num), written out.
func TestNum(t *testing.T) {
	for n, want := range map[uint64]string{
		0: "\x00", 1: "\x01", 246: "\xf6", 247: "\xf7",
		248: "\xf8\xf8", 249: "\xf8\xf9", 255: "\xf8\xff",
		256: "\xf9\x01\x00", 300: "\xf9\x01\x2c", 1<<16 - 1: "\xf9\xff\xff",
		1 << 16: "\xfa\x01\x00\x00", 1<<24 - 1: "\xfa\xff\xff\xff",
		1 << 24: "\xfb\x01\x00\x00\x00", 1<<32 - 1: "\xfb\xff\xff\xff\xff",
		1 << 32: "\xfc\x01\x00\x00\x00\x00", 1<<40 - 1: "\xfc\xff\xff\xff\xff\xff",
		1 << 40: "\xfd\x01\x00\x00\x00\x00\x00", 1<<48 - 1: "\xfd\xff\xff\xff\xff\xff\xff",
		1 << 48: "\xfe\x01\x00\x00\x00\x00\x00\x00", 1<<56 - 1: "\xfe\xff\xff\xff\xff\xff\xff\xff",
		1 << 56: "\xff\x01\x00\x00\x00\x00\x00\x00\x00", math.MaxUint64: "\xff\xff\xff\xff\xff\xff\xff\xff\xff",
	} {
		if s := Num(n); s != want {
			t.Errorf("Num(%d): %q, not %q", n, s, want)
		}
	}
}

// P2.1 (Num), by another way.
func TestNumAgainstWide(t *testing.T) {
	l := numbers()
	for n := uint64(0); n < 1<<17; n++ {
		l = append(l, n)
	}
	for _, n := range l {
		if s := Num(n); s != wide(n) {
			t.Errorf("Num(%d): %q, not %q", n, s, wide(n))
		}
	}
}

// P2.1 (Int): the bytes of one more; nothing of a number that is beyond.
func TestInt(t *testing.T) {
	for n, want := range map[int]string{
		-1: "\x00", 0: "\x01", 1: "\x02", 245: "\xf6", 246: "\xf7", 247: "\xf8\xf8", 248: "\xf8\xf9", 254: "\xf8\xff", 255: "\xf9\x01\x00",
		api.MaxNumber - 2: "\xfc\xff\xff\xff\xff\xff", api.MaxNumber - 1: "\xfd\x01\x00\x00\x00\x00\x00", api.MaxNumber: "\xfd\x01\x00\x00\x00\x00\x01",
		-2: "", -3: "", -248: "", -api.MaxNumber: "", math.MinInt: "", math.MinInt + 1: "",
		api.MaxNumber + 1: "", api.MaxNumber + 2: "", 1 << 62: "", math.MaxInt: "", math.MaxInt - 1: "",
	} {
		if s := Int(n); s != want {
			t.Errorf("Int(%d): %q, not %q", n, s, want)
		}
	}
	for n := -1; n < 1<<17; n++ {
		if s := Int(n); s != wide(uint64(n+1)) {
			t.Errorf("Int(%d): %q, not %q", n, s, wide(uint64(n+1)))
		}
	}
}

// P2.1 (Text): the bytes of how many it has, not of how many runes, and it.
func TestText(t *testing.T) {
	for s, want := range map[string]string{
		"": "\x00", "ab": "\x02ab", "\x00": "\x01\x00", "\u00e4": "\x02\xc3\xa4", "\xf8\x05": "\x02\xf8\x05",
	} {
		if b := Text(s); b != want {
			t.Errorf("Text(%q): %q, not %q", s, b, want)
		}
	}
	for _, s := range texts() {
		if b := Text(s); b != wide(uint64(len(s)))+s {
			t.Errorf("Text of %d bytes: %.20q", len(s), b)
		}
	}
}

// P2.2 and P2.3 (Read): what is put is told, whatever is behind it; cut off anywhere, nothing is.
func TestReadWhatIsPut(t *testing.T) {
	for _, n := range numbers() {
		s := Num(n)
		for _, more := range behind() {
			if m, rest, ok := Read(s + more); m != n || rest != more || !ok {
				t.Errorf("Read of %d and %.20q: %d, %.20q, %v", n, more, m, rest, ok)
			}
		}
		for i := range s {
			noRead(t, s[:i])
		}
	}
}

// P2.2 (Read): numbers with more bytes than are needed, of each size, and bytes that are too few.
func TestReadRefuses(t *testing.T) {
	for _, s := range []string{
		"", "\xf8", "\xf9", "\xff", "\xf8\x00", "\xf8\x05", "\xf8\xf7", "\xf8\xf7\xf8",
		"\xf9\x00\xf8", "\xf9\x00\x00", "\xf9\x00\xff", "\xf9\x01", "\xfa\x00\x01\x00", "\xfa\x00\x00\x01", "\xfa\x01\x00",
		"\xff\x01", "\xff\x00\xff\xff\xff\xff\xff\xff\xff", "\xff\xff\xff\xff\xff\xff\xff\xff",
	} {
		noRead(t, s)
	}
	for size := 1; size <= 8; size++ {
		for _, n := range numbers() {
			b := binary.BigEndian.AppendUint64(nil, n)
			if len(bytes.TrimLeft(b, "\x00")) > size {
				continue
			}
			s := string([]byte{byte(247 + size)}) + string(b[8-size:])
			if s == wide(n) {
				continue
			}
			noRead(t, s)
			noRead(t, s+strings.Repeat("\xff", 80))
		}
	}
}

// P2.2 and P2.3 (all three): at whatever two bytes, and at three that begin with more than one byte's number, what is told is what stood there.
func TestWhatIsToldStoodThere(t *testing.T) {
	for i := 0; i < 1<<16; i++ {
		s := string([]byte{byte(i >> 8), byte(i)})
		stood(t, s)
		stood(t, "\xf9"+s)
		stood(t, "\xf8"+s)
		stood(t, "\x02"+s)
	}
}

// stood holds each answer against the bytes, and a refusal against what could have stood there.
func stood(t *testing.T, s string) {
	t.Helper()
	n, rest, ok := Read(s)
	if ok && Num(n)+rest != s {
		t.Errorf("Read(%q): %d, %q", s, n, rest)
	}
	if want := s[0] < 248 || s[0] == 248 && s[1] >= 248 || s[0] == 249 && len(s) > 2 && s[1] > 0; ok != want {
		t.Errorf("Read(%q): %v", s, ok)
	}
	if m, left, fits := Unint(s); fits != ok || fits && (Int(m)+left != s || m != int(n)-1) {
		t.Errorf("Unint(%q): %d, %q, %v", s, m, left, fits)
	}
	if text, left, fits := Cut(s); fits != (ok && n <= uint64(len(rest))) || fits && Text(text)+left != s {
		t.Errorf("Cut(%q): %q, %q, %v", s, text, left, fits)
	}
	if !ok {
		noRead(t, s)
	}
}

// P2.2 and P2.3 (Unint): what Int tells, up to MaxNumber and no further, and nothing of what is cut off.
func TestUnint(t *testing.T) {
	for _, n := range []int{-1, 0, 1, 245, 246, 247, 248, 254, 255, 256, 65534, 65535, 1<<32 - 1, 1 << 32, api.MaxNumber - 2, api.MaxNumber - 1, api.MaxNumber} {
		s := Int(n)
		for _, more := range behind() {
			if m, rest, ok := Unint(s + more); m != n || rest != more || !ok {
				t.Errorf("Unint of %d and %.20q: %d, %.20q, %v", n, more, m, rest, ok)
			}
		}
		for i := range s {
			noUnint(t, s[:i])
		}
	}
	for _, n := range numbers() {
		m, rest, ok := Unint(Num(n) + "z")
		if n > api.MaxNumber+1 {
			noUnint(t, Num(n))
			noUnint(t, Num(n)+"z")
		} else if m != int(n)-1 || rest != "z" || !ok {
			t.Errorf("Unint of the bytes of %d: %d, %q, %v", n, m, rest, ok)
		}
	}
}

// P2.2 and P2.3 (Cut): what Text tells, whatever is behind it; cut off anywhere, nothing.
func TestCutWhatIsPut(t *testing.T) {
	for _, s := range texts() {
		b := Text(s)
		for _, more := range behind() {
			if text, rest, ok := Cut(b + more); text != s || rest != more || !ok {
				t.Errorf("Cut of %d bytes and %.20q: %.20q, %.20q, %v", len(s), more, text, rest, ok)
			}
		}
		for i := 0; i < len(b); i += 1 + i/300 {
			noCut(t, b[:i])
		}
		noCut(t, b[:len(b)-1])
	}
}

// P2.2 (Cut): a text shorter than it tells, also by numbers that no int holds, and numbers that may not be.
func TestCutRefuses(t *testing.T) {
	for _, s := range []string{
		"", "\x01", "\x03ab", "\xf7ab", "\xf8\xf8ab", "\xf8\x02ab", "\xf8\x00", "\xf9\x00\x02ab", "\xf9\x01",
		"\xf9\x01\x00" + strings.Repeat("a", 255), "\xf8\xf8" + strings.Repeat("a", 247),
	} {
		noCut(t, s)
	}
	for _, n := range []uint64{3, 1 << 31, 1 << 32, 1<<32 + 2, api.MaxNumber, 1<<63 - 1, 1 << 63, 1<<63 + 2, math.MaxUint64 - 1, math.MaxUint64} {
		noCut(t, Num(n)+"ab")
	}
}

// P2.3: several, one behind the other, are told again in their order, and nothing is left.
func TestOneBehindTheOther(t *testing.T) {
	s := ""
	for i, n := range numbers() {
		s += Num(n) + Int(i) + Text(texts()[i%len(texts())])
	}
	for i, want := range numbers() {
		n, rest, ok := Read(s)
		m, rest, fits := Unint(rest)
		text, rest, whole := Cut(rest)
		if n != want || !ok || m != i || !fits || text != texts()[i%len(texts())] || !whole {
			t.Fatal(i, n, ok, m, fits, len(text), whole)
		}
		s = rest
	}
	if s != "" {
		t.Errorf("%.20q is left", s)
	}
}
