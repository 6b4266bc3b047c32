package dir_test

import (
	"bytes"
	"encoding/binary"
	"regexp"
	"strings"
	"testing"

	"cistern/api"
	"cistern/dir"
)

var rightName = regexp.MustCompile(`\A[a-z0-9_.-]{1,16}\z`)

// may: whether a volume may be, by the chapter's words.
func may(v api.Volume) bool {
	return rightName.MatchString(v.Name) && v.Id > 0 && v.Id < 1<<62 && v.Size <= 1<<32
}

// takenOf: what bytes are the entry of, by the chapter's words, and whether they are one.
func takenOf(b []byte) (api.Volume, bool) {
	if len(b) < 34 || b[32] > 1 || len(b) < 34+int(b[33]) {
		return api.Volume{}, false
	}
	var n [4]uint64
	for i := range n {
		n[i] = binary.BigEndian.Uint64(b[8*i:])
	}
	end := 34 + int(b[33])
	v := api.Volume{Id: n[0], Size: n[1], Root: n[2], Origin: n[3], Fixed: b[32] > 0, Name: string(b[34:end])}
	if !may(v) || strings.Trim(string(b[end:]), "\x00") != "" {
		return api.Volume{}, false
	}
	return v, true
}

// names: some that may be, and some that may not.
var names = []string{
	"a", "z", "0", "9", "-", "_", ".", "..", "a.b", "az09-_.", "0123456789abcdef", "----------------",
	"", "A", "Z", " ", "/", "a ", " a", "a/b", "a\x00", "\x00", "a\n", "\u00e9", "\xff", "a\xff", "\u017f", "\u0661", "\ufffd",
	"0123456789abcdefg", strings.Repeat("a", 255), strings.Repeat("a", 256), strings.Repeat("a", 257), strings.Repeat("a", 272), strings.Repeat("\u00e9", 8),
}

// P16.1: Named, of names of each length.
func TestNamedLengths(t *testing.T) {
	for n := range 600 {
		if have, want := dir.Named(strings.Repeat("q", n)), n >= 1 && n <= 16; have != want {
			t.Errorf("Named of %d bytes tells %v", n, have)
		}
	}
	if dir.Named(strings.Repeat("q", 1<<20)) {
		t.Error("Named of a long name tells true")
	}
}

// P16.1: Named, of each byte, at each place of names of each length; and of two bytes side by side.
func TestNamedBytes(t *testing.T) {
	const right = "abcdefghijklmnopqrstuvwxyz0123456789-_."
	for n := range 16 {
		for at := range n + 1 {
			for b := range 256 {
				name := []byte(strings.Repeat("k", n+1))
				name[at] = byte(b)
				if have, want := dir.Named(string(name)), strings.IndexByte(right, byte(b)) >= 0; have != want {
					t.Fatalf("Named(%q) tells %v", name, have)
				}
			}
		}
	}
	for two := range 1 << 16 {
		name := string([]byte{byte(two >> 8), byte(two)})
		if have, want := dir.Named(name), rightName.MatchString(name); have != want {
			t.Fatalf("Named(%q) tells %v", name, have)
		}
	}
}

// P16.1: Named, of names of letters of more than one byte.
func TestNamedLetters(t *testing.T) {
	for letter := rune(128); letter < 0x11000; letter++ {
		if dir.Named(string(letter)) || dir.Named("a"+string(letter)) {
			t.Fatalf("Named of the letter %x tells true", letter)
		}
	}
}

// edges: numbers that may be an Id, a Size, and those beside them.
var edges = []uint64{0, 1, 2, 255, 256, 1 << 31, 1<<32 - 1, 1 << 32, 1<<32 + 1, 1<<62 - 1, 1 << 62, 1<<62 + 1, 1 << 63, greatest}

// each: volumes of all edges with one another.
func each(do func(v api.Volume)) {
	for _, id := range edges {
		for _, size := range edges {
			for _, name := range names {
				for _, other := range edges {
					do(api.Volume{Id: id, Name: name, Size: size, Root: other, Fixed: other%2 == 0, Origin: greatest - other})
				}
			}
		}
	}
}

// P16.1: May, Put and Take, of all edges with one another.
func TestEdges(t *testing.T) {
	right := 0
	each(func(v api.Volume) {
		if have := dir.May(v); have != may(v) {
			t.Fatalf("May(%v) tells %v", v, have)
		}
		b, e := dir.Put(v)
		if !may(v) {
			if len(b) > 0 || e != api.ErrArg {
				t.Fatalf("Put(%v) tells %v, %d", v, b, e)
			}
			refused(t, entryOf(v))
			return
		}
		right++
		if !bytes.Equal(b, entryOf(v)) || e != api.OK {
			t.Fatalf("Put(%v) tells %v, %d", v, b, e)
		}
		if have, e := dir.Take(b); have != v || e != api.OK {
			t.Fatalf("Take of the entry of %v tells %v, %d", v, have, e)
		}
	})
	if right == 0 {
		t.Error("no volume may be")
	}
}

// refused: that Take tells ErrForm of these bytes.
func refused(t *testing.T, b []byte) {
	t.Helper()
	if v, e := dir.Take(b); v != (api.Volume{}) || e != api.ErrForm {
		t.Fatalf("Take(%v) tells %v, %d", b, v, e)
	}
}

// samples: volumes that may be, of names of all lengths.
func samples() []api.Volume {
	var l []api.Volume
	for n := range 16 {
		for _, fixed := range []bool{false, true} {
			l = append(l, api.Volume{Id: 1<<62 - 1 - uint64(n), Name: "az09-_.0123456789"[n/2 : n+1], Size: 1<<32 - uint64(n)*7, Root: 0x0102030405060708 << n, Fixed: fixed, Origin: uint64(n)})
		}
	}
	return append(l, api.Volume{Id: 1, Name: "a"}, api.Volume{Id: 256, Name: "0123456789abcdef", Fixed: true})
}

// P16.1: Take, of an entry that is cut, and of one with noughts behind, however many.
func TestTakeLengths(t *testing.T) {
	for _, v := range samples() {
		b := entryOf(v)
		for n := range len(b) {
			refused(t, b[:n:n])
			refused(t, b[:n]) // what stands behind is not asked
		}
		for n := range 300 {
			if have, e := dir.Take(append(bytes.Clone(b), make([]byte, n)...)); have != v || e != api.OK {
				t.Fatalf("Take of %v and %d noughts tells %v, %d", b, n, have, e)
			}
		}
	}
	refused(t, nil)
	refused(t, []byte{})
	for n := range 300 {
		refused(t, make([]byte, n))
	}
}

// P16.1: Take, of an entry with any other byte behind, wherever it stands.
func TestTakeBehind(t *testing.T) {
	for _, v := range samples() {
		b := entryOf(v)
		for n := len(b); n < 260; n++ {
			for _, other := range []byte{1, 'a', 128, 255} {
				for _, more := range []int{0, 1, 40} {
					c := append(bytes.Clone(b), make([]byte, n-len(b))...)
					c = append(append(c, other), make([]byte, more)...)
					refused(t, c)
				}
			}
		}
	}
}

// P16.1: Take, of an entry in which one byte is any other one: a Fixed of 2, a count that is wrong, a letter that may not be among them.
func TestTakeEachByte(t *testing.T) {
	t.Parallel()
	taken := 0
	for _, v := range samples() {
		for _, behind := range []int{0, 1, 20, 300} {
			b := append(entryOf(v), make([]byte, behind)...)
			for at := range min(len(b), 60) {
				was := b[at]
				for other := range 256 {
					b[at] = byte(other)
					if asWords(t, b) {
						taken++
					}
				}
				b[at] = was
			}
		}
	}
	if taken == 0 {
		t.Error("nothing was taken")
	}
}

// asWords: that Take tells what the chapter's words tell; whether these bytes are an entry.
func asWords(t *testing.T, b []byte) bool {
	t.Helper()
	want, so := takenOf(b)
	if !so {
		refused(t, b)
		return false
	}
	if have, e := dir.Take(b); have != want || e != api.OK {
		t.Fatalf("Take(%v) tells %v, %d, want %v", b, have, e, want)
	}
	again, e := dir.Put(want)
	if e != api.OK || !bytes.HasPrefix(b, again) {
		t.Fatalf("what Take tells of %v is put as %v", b, again)
	}
	return true
}

// P16.1: Take, of a name's count that is wrong by any number, with letters, noughts, or nothing behind.
func TestTakeCounts(t *testing.T) {
	for n := range 20 {
		for _, behind := range []string{"", "a", "bcd", "\x00", "\x00\x00\x00", "\x00a", strings.Repeat("\x00", 255)} {
			b := entryOf(api.Volume{Id: 5, Name: strings.Repeat("n", n)})
			b = append(b, behind...)
			for count := range 256 {
				b[33] = byte(count)
				asWords(t, b)
			}
		}
	}
}

// P16.1: Take, of bytes that are almost an entry.
func TestTakeWild(t *testing.T) {
	r := numbers(1)
	all := samples()
	taken := 0
	for range 200000 {
		b := append(entryOf(all[r.IntN(len(all))]), make([]byte, r.IntN(4))...)
		for range r.IntN(4) {
			b[r.IntN(len(b))] = []byte{0, 1, 2, 'a', '.', 16, 255}[r.IntN(7)]
		}
		b = b[:len(b)-r.IntN(2)]
		if asWords(t, b) {
			taken++
		}
	}
	if taken < 10000 {
		t.Errorf("%d of the bytes were taken", taken)
	}
}

// R3: what Put tells, and what Take tells, is new memory; what Take is given stays.
func TestEntryIsNew(t *testing.T) {
	v := volume(7, "name")
	b, _ := dir.Put(v)
	clear(b[:cap(b)])
	c, e := dir.Put(v)
	if !bytes.Equal(c, entryOf(v)) || e != api.OK {
		t.Errorf("Put tells %v, %d", c, e)
	}
	d := bytes.Clone(c)
	taken, e := dir.Take(c)
	if e != api.OK || !bytes.Equal(c, d) {
		t.Errorf("Take made %v of %v", c, d)
	}
	clear(c)
	if taken != v {
		t.Errorf("%v has become %v", v, taken)
	}
}
