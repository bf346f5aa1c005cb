package crc

import (
	"encoding/binary"
	"fmt"
	"hash/crc32"
	"hash/fnv"
	"math"
	"strings"
	"testing"

	"signalling/api"
)

// mixedText is a text of bytes of all kinds, made by a linear congruence, so that every run of the tests has the same one.
func mixedText(length int, seed uint64) string {
	text := make([]byte, length)
	for i := range text {
		seed = seed*6364136223846793005 + 1442695040888963407
		text[i] = byte(seed >> 56)
	}
	return string(text)
}

// allBytes is a text of every byte once.
func allBytes() string {
	text := make([]byte, 256)
	for i := range text {
		text[i] = byte(i)
	}
	return string(text)
}

// texts are empty, short and long ones, with bytes that are no characters, and such that end with checksums.
func texts() []string {
	list := []string{
		"", "a", "ab", "abc", "abcd", "abcde", "123456789", "zwölf", "\x80", "\xff\xfe", "a\xc3", "\xe2\x82", "a\r\n\x00b",
		"a\xe8\xb7\xbe\x43", allBytes(), strings.Repeat("x", 255), strings.Repeat("x", 256), strings.Repeat("y", api.MaxText), mixedText(api.MaxSave+1, 3),
	}
	for length := range 10 {
		list = append(list, strings.Repeat("\x00", length), strings.Repeat("\xff", length), mixedText(length, uint64(length)))
	}
	return list
}

// smallTexts are all texts of at most length of some bytes.
func smallTexts(length int) []string {
	list := []string{""}
	for from := 0; length > 0; length-- {
		shorter := list[from:]
		from = len(list)
		for _, s := range shorter {
			for _, b := range []string{"\x00", "\x01", "a", "\x7f", "\x80", "\xff"} {
				list = append(list, s+b)
			}
		}
	}
	return list
}

// numbers differ in each of their bytes and bits.
func numbers() []uint64 {
	list := []uint64{0, 2, 10, 255, 256, 0xabcdef, 0x0123456789abcdef, 0xfedcba9876543210, 14695981039346656037, math.MaxInt, math.MaxUint64 - 1, math.MaxUint64}
	for bits := range 64 {
		list = append(list, 1<<bits, 1<<bits-1, ^uint64(1<<bits))
	}
	return list
}

// short is a text as it is shown in the messages of tests.
func short(s string) string {
	if len(s) <= 20 {
		return fmt.Sprintf("%q", s)
	}
	return fmt.Sprintf("%q.. of %d bytes", s[:20], len(s))
}

// P4.1
func TestSumExamples(t *testing.T) {
	for _, c := range []struct {
		s    string
		want uint32
	}{
		{"", 0}, {"123456789", 0xcbf43926}, {"a", 0xe8b7be43}, {"ab", 0x9e83486d}, {"abc", 0x352441c2},
		{"\x00", 0xd202ef8d}, {"\x00\x00\x00\x00", 0x2144df1c}, {strings.Repeat("\x00", 32), 0x190a55ad},
		{"\xff", 0xff000000}, {"\xff\xff\xff\xff", 0xffffffff}, {"\x80", 0x3fba6cad},
		{"The quick brown fox jumps over the lazy dog", 0x414fa339},
	} {
		if got := Sum(c.s); got != c.want {
			t.Errorf("Sum(%q) = %x, want %x", c.s, got, c.want)
		}
	}
}

// P4.1: against another implementation of the same checksum.
func TestSum(t *testing.T) {
	for _, s := range append(texts(), smallTexts(5)...) {
		if got, want := Sum(s), crc32.ChecksumIEEE([]byte(s)); got != want {
			t.Errorf("Sum(%s) = %x, want %x", short(s), got, want)
		}
	}
}

// P4.1: every text of one or two bytes.
func TestSumOfBytes(t *testing.T) {
	for a := range 256 {
		first := []byte{byte(a)}
		if got, want := Sum(string(first)), crc32.ChecksumIEEE(first); got != want {
			t.Errorf("Sum(%q) = %x, want %x", first, got, want)
		}
		for b := range 256 {
			both := []byte{byte(a), byte(b)}
			if got, want := Sum(string(both)), crc32.ChecksumIEEE(both); got != want {
				t.Errorf("Sum(%q) = %x, want %x", both, got, want)
			}
		}
	}
}

// P4.2
func TestSealExamples(t *testing.T) {
	for _, c := range []struct{ s, want string }{
		{"", "\x00\x00\x00\x00"}, {"a", "a\xe8\xb7\xbe\x43"}, {"123456789", "123456789\xcb\xf4\x39\x26"},
		{"\x00", "\x00\xd2\x02\xef\x8d"}, {"\xff", "\xff\xff\x00\x00\x00"}, {"\xff\xff\xff\xff", "\xff\xff\xff\xff\xff\xff\xff\xff"},
	} {
		if got := Seal(c.s); got != c.want {
			t.Errorf("Seal(%q) = %q, want %q", c.s, got, c.want)
		}
	}
}

// P4.2: against another implementation.
func TestSeal(t *testing.T) {
	for _, s := range texts() {
		if got, want := Seal(s), string(binary.BigEndian.AppendUint32([]byte(s), crc32.ChecksumIEEE([]byte(s)))); got != want {
			t.Errorf("Seal(%s) = %s, want %s", short(s), short(got), short(want))
		}
	}
}

// P4.3
func TestOpen(t *testing.T) {
	for _, c := range []struct{ s, want string }{
		{"\x00\x00\x00\x00", ""}, {"a\xe8\xb7\xbe\x43", "a"}, {"123456789\xcb\xf4\x39\x26", "123456789"},
		{"\x00\xd2\x02\xef\x8d", "\x00"}, {"\xff\xff\x00\x00\x00", "\xff"}, {"\xff\xff\xff\xff\xff\xff\xff\xff", "\xff\xff\xff\xff"},
		{"\x00\x00\x00\x00\x21\x44\xdf\x1c", "\x00\x00\x00\x00"},
	} {
		if got, e := Open(c.s); got != c.want || e != api.OK {
			t.Errorf("Open(%q) = %q, %d, want %q", c.s, got, e, c.want)
		}
	}
}

// P4.3: texts of fewer than four bytes, whatever the bytes are.
func TestOpenTruncated(t *testing.T) {
	for _, s := range append(smallTexts(3), "abc", "\xe8\xb7\xbe", "\xcb\xf4\x39") {
		if got, e := Open(s); got != "" || e != api.ErrTruncated {
			t.Errorf("Open(%q) = %q, %d, want ErrTruncated", s, got, e)
		}
	}
}

// P4.3: other numbers than the checksum: in another order of the bytes, of another text, before inverting, at another place.
func TestOpenCorrupt(t *testing.T) {
	for _, s := range []string{
		"\x00\x00\x00\x01", "\x01\x00\x00\x00", "\x00\x01\x00\x00", "\x00\x00\x80\x00", "\xff\xff\xff\xff", "abcd",
		"123456789\x26\x39\xf4\xcb", "123456788\xcb\xf4\x39\x26", "123456789\x34\x0b\xc6\xd9", "\xcb\xf4\x39\x26123456789",
		"23456789\xcb\xf4\x39\x26", "123456789\xcb\xf4\x39\x26\x00", "a\x43\xbe\xb7\xe8", "b\xe8\xb7\xbe\x43",
		"a\x00\x00\x00\x00", "\x00\x00\x00\x00\x00", "\x00\x00\x00\x00\x00\x00\x00\x00", "a\xe8\xb7\xbe\x43\xe8\xb7\xbe\x43",
	} {
		if got, e := Open(s); got != "" || e != api.ErrCorrupt {
			t.Errorf("Open(%q) = %q, %d, want ErrCorrupt", s, got, e)
		}
	}
}

// P4.3: the beginnings of a sealed text.
func TestOpenBeginnings(t *testing.T) {
	sealed := Seal("123456789")
	for i := range len(sealed) {
		want := api.ErrCorrupt
		if i < 4 {
			want = api.ErrTruncated
		}
		if got, e := Open(sealed[:i]); got != "" || e != want {
			t.Errorf("Open(%q) = %q, %d, want the error %d", sealed[:i], got, e, want)
		}
	}
}

// P4.4: digests that were computed by another program.
func TestChainExamples(t *testing.T) {
	for _, c := range []struct {
		h    uint64
		s    string
		want uint64
	}{
		{0, "", 0x88201fb960ff6465}, {0, "a", 0xba8fd8a23d5c6cdf}, {1, "", 0x392209f14dea4c24}, {255, "ab", 0x572968f6d841641b},
		{math.MaxUint64, "\xff\x00", 0x73176908959779e0}, {14695981039346656037, "123456789", 0xc2a7a1abeb4ea9bc},
		{0x0102030405060708, strings.Repeat("x", 300), 0x8d3ed560dadebabe},
	} {
		if got := Chain(c.h, c.s); got != c.want {
			t.Errorf("Chain(%x, %s) = %x, want %x", c.h, short(c.s), got, c.want)
		}
	}
}

// otherChain uses another implementation of the same digest.
func otherChain(h uint64, s string) uint64 {
	list := binary.LittleEndian.AppendUint64(nil, h)
	list = binary.LittleEndian.AppendUint64(list, uint64(len(s)))
	digest := fnv.New64a()
	digest.Write(append(list, s...))
	return digest.Sum64()
}

// P4.4
func TestChain(t *testing.T) {
	for _, s := range append(texts(), smallTexts(4)...) {
		for _, h := range []uint64{0, 1, 0x0123456789abcdef, math.MaxUint64} {
			if got, want := Chain(h, s), otherChain(h, s); got != want {
				t.Errorf("Chain(%x, %s) = %x, want %x", h, short(s), got, want)
			}
		}
	}
	for _, h := range numbers() {
		for _, s := range []string{"", "\x00", "ab", "\xff\x80"} {
			if got, want := Chain(h, s), otherChain(h, s); got != want {
				t.Errorf("Chain(%x, %q) = %x, want %x", h, s, got, want)
			}
		}
	}
}

// P4.4: the texts of a chain one after the other.
func TestChainOfTexts(t *testing.T) {
	got, want := uint64(0), uint64(0)
	for _, s := range texts() {
		got, want = Chain(got, s), otherChain(want, s)
		if got != want {
			t.Fatalf("the chain up to %s is %x, want %x", short(s), got, want)
		}
	}
	if Chain(Chain(0, "a"), "b") == Chain(0, "ab") || Chain(Chain(0, "a"), "bc") == Chain(Chain(0, "ab"), "c") {
		t.Error("the digest does not tell where a text ends")
	}
}

// P4.5
func TestHexExamples(t *testing.T) {
	for _, c := range []struct {
		h    uint64
		want string
	}{
		{0, "0000000000000000"}, {1, "0000000000000001"}, {9, "0000000000000009"}, {10, "000000000000000a"}, {15, "000000000000000f"},
		{16, "0000000000000010"}, {255, "00000000000000ff"}, {0x0123456789abcdef, "0123456789abcdef"}, {0xfedcba9876543210, "fedcba9876543210"},
		{14695981039346656037, "cbf29ce484222325"}, {1 << 63, "8000000000000000"}, {math.MaxUint64, "ffffffffffffffff"},
	} {
		if got := Hex(c.h); got != c.want {
			t.Errorf("Hex(%d) = %q, want %q", c.h, got, c.want)
		}
	}
}

// P4.5: against another implementation.
func TestHex(t *testing.T) {
	for _, h := range numbers() {
		if got, want := Hex(h), fmt.Sprintf("%016x", h); got != want {
			t.Errorf("Hex(%d) = %q, want %q", h, got, want)
		}
	}
}

// P4.6: a sealed text is opened to what was sealed, also if it was sealed twice.
func TestSealedIsOpened(t *testing.T) {
	for _, s := range append(texts(), smallTexts(4)...) {
		if got, e := Open(Seal(s)); got != s || e != api.OK {
			t.Errorf("Open(Seal(%s)) = %s, %d", short(s), short(got), e)
		}
		if got, e := Open(Seal(Seal(s))); got != Seal(s) || e != api.OK {
			t.Errorf("Open(Seal(Seal(%s))) = %s, %d", short(s), short(got), e)
		}
	}
}

// P4.6: a text that can be opened is sealed, and every sealed text can be opened.
func TestOpenedIsSealed(t *testing.T) {
	list := append(texts(), smallTexts(5)...)
	for _, s := range texts() {
		list = append(list, Seal(s), Seal(s)+"\x00", "\x00"+Seal(s))
	}
	for _, s := range list {
		got, e := Open(s)
		if e == api.OK && Seal(got) != s {
			t.Errorf("%s is opened to %s, but that is sealed as %s", short(s), short(got), short(Seal(got)))
		}
		if e != api.OK && got != "" {
			t.Errorf("Open(%s) = %s with the error %d", short(s), short(got), e)
		}
		if e != api.OK && len(s) >= 4 && Seal(s[:len(s)-4]) == s {
			t.Errorf("Open(%s) returns the error %d, but it is sealed", short(s), e)
		}
	}
}

// P4.7: every byte of sealed texts, the bytes of the checksum among them, is changed to every other one.
func TestCrcDetects(t *testing.T) {
	for _, s := range []string{"", "a", "\x00", "\xff\xff\xff\xff", "123456789", "zwölf\n", allBytes()} {
		sealed := Seal(s)
		for i := range len(sealed) {
			for b := range 256 {
				if byte(b) == sealed[i] {
					continue
				}
				changed := []byte(sealed)
				changed[i] = byte(b)
				if got, e := Open(string(changed)); got != "" || e != api.ErrCorrupt {
					t.Errorf("Seal(%s) with the byte %d changed to %d is opened: %s, %d", short(s), i, b, short(got), e)
				}
			}
		}
	}
}

// P4.7: bytes at some places of long texts.
func TestCrcDetectsInLongTexts(t *testing.T) {
	sealed := Seal(mixedText(20000, 5))
	for i := 0; i < len(sealed); i += 997 {
		for bit := range 8 {
			changed := []byte(sealed)
			changed[i] ^= 1 << bit
			if got, e := Open(string(changed)); got != "" || e != api.ErrCorrupt {
				t.Errorf("a change of the bit %d of the byte %d is not detected: %s, %d", bit, i, short(got), e)
			}
		}
	}
}

// exclusiveOr combines three texts of equal length byte by byte.
func exclusiveOr(a, b, c string) string {
	text := make([]byte, len(a))
	for i := range text {
		text[i] = a[i] ^ b[i] ^ c[i]
	}
	return string(text)
}

// P4.8
func TestExclusiveOr(t *testing.T) {
	check := func(a, b, c string) {
		if got, want := Sum(exclusiveOr(a, b, c)), Sum(a)^Sum(b)^Sum(c); got != want {
			t.Errorf("for %s, %s and %s: %x, want %x", short(a), short(b), short(c), got, want)
		}
	}
	small := smallTexts(2)
	for _, a := range small {
		for _, b := range small {
			for _, c := range small {
				if len(a) == len(b) && len(b) == len(c) {
					check(a, b, c)
				}
			}
		}
	}
	for length := range 300 {
		seed := uint64(length) * 3
		check(mixedText(length, seed), mixedText(length, seed+1), mixedText(length, seed+2))
	}
	check(mixedText(api.MaxSave, 7), strings.Repeat("\x00", api.MaxSave), strings.Repeat("\xff", api.MaxSave))
}
