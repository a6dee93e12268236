package sha_test

import (
	"bytes"
	"crypto/sha256"
	"encoding/hex"
	"strconv"
	"strings"
	"testing"

	"aumbry/api"
	"aumbry/sha"
)

// mixed hands out n bytes, no two blocks of them alike.
func mixed(n int) []byte {
	b := make([]byte, n)
	for i := range b {
		b[i] = byte(i*i*31 + i*7 + i>>8 + 3)
	}
	return b
}

// other is another maker of the same hash.
func other(b []byte) api.Hash { return sha256.Sum256(b) }

// hashOf reads a hash's 64 digits.
func hashOf(t *testing.T, digits string) api.Hash {
	t.Helper()
	b, err := hex.DecodeString(digits)
	if err != nil || len(b) != len(api.Hash{}) {
		t.Fatal("no hash:", digits)
	}
	return api.Hash(b)
}

// within hands out a list with more memory behind its length, and that memory.
func within(s string) (list, behind []byte) {
	b := []byte(s + "????????")
	return b[:len(s)], b[len(s):]
}

// untouched says whether the list and what is behind it are as within made them.
func untouched(s string, list, behind []byte) bool {
	return string(list) == s && string(behind) == "????????"
}

// spoil writes over a list and over what its memory has behind it.
func spoil(b []byte) {
	b = b[:cap(b)]
	for i := range b {
		b[i] = '#'
	}
}

// edges are the lengths about a block's end, and about where its count still fits.
var edges = []int{0, 1, 2, 54, 55, 56, 57, 62, 63, 64, 65, 66, 118, 119, 120, 121, 126, 127, 128, 129, 130, 183, 184, 191, 192, 193}

// P2.1

// The standard's own texts, and the chapter's.
var known = []struct{ name, text, hash string }{
	{"nothing", "", "e3b0c44298fc1c149afbf4c8996fb92427ae41e4649b934ca495991b7852b855"},
	{"three bytes", "abc", "ba7816bf8f01cfea414140de5dae2223b00361a396177a9cb410ff61f20015ad"},
	{"56 bytes", "abcdbcdecdefdefgefghfghighijhijkijkljklmklmnlmnomnopnopq", "248d6a61d20638b8e5c026930c3e6039a33ce45964ff2167f6ecedd419db06c1"},
	{"112 bytes", "abcdefghbcdefghicdefghijdefghijkefghijklfghijklmghijklmnhijklmnoijklmnopjklmnopqklmnopqrlmnopqrsmnopqrstnopqrstu", "cf5b16a778af8380036ce59e7b0492370b249b11e8f07a51afac45037afee9d1"},
	{"a million bytes", strings.Repeat("a", 1000000), "cdc76e5c9914fb9281a1c7e284d73e67f1809a48a497200e046d39ccc7112cd0"},
}

func TestSumOfKnownTexts(t *testing.T) {
	for _, r := range known {
		want := hashOf(t, r.hash)
		if got := sha.Sum([]byte(r.text)); got != want {
			t.Errorf("%s: Sum = %x", r.name, got)
		}
		s := sha.New()
		if n := s.Write([]byte(r.text)); n != len(r.text) {
			t.Errorf("%s: Write = %d", r.name, n)
		}
		if got := s.Sum(); got != want {
			t.Errorf("%s: New, Write, Sum = %x", r.name, got)
		}
	}
	if got := sha.Sum(nil); got != hashOf(t, known[0].hash) {
		t.Errorf("Sum(nil) = %x", got)
	}
}

func TestSumOfEachLength(t *testing.T) {
	all := mixed(600)
	for n := range len(all) + 1 {
		if got, want := sha.Sum(all[:n]), other(all[:n]); got != want {
			t.Errorf("%d bytes: Sum = %x, want %x", n, got, want)
		}
		for _, x := range []byte{0, 0x80, 0xff} {
			b := bytes.Repeat([]byte{x}, n)
			if got, want := sha.Sum(b), other(b); got != want {
				t.Errorf("%d bytes %d: Sum = %x, want %x", n, x, got, want)
			}
		}
	}
	for _, n := range []int{api.MaxData, api.MaxBytes - 1, api.MaxBytes, api.MaxBytes + 1, 1<<20 + 7} {
		b := mixed(n)
		if got, want := sha.Sum(b), other(b); got != want {
			t.Errorf("%d bytes: Sum = %x, want %x", n, got, want)
		}
	}
}

// The last block tells the count in bits: here it needs more than 32 of them.
func TestSumOfManyBits(t *testing.T) {
	part := mixed(1<<20 + 1)
	s, want := sha.New(), sha256.New()
	total := 0
	for total <= 1<<29 {
		total += len(part)
		want.Write(part)
		if n := s.Write(part); n != total {
			t.Fatalf("Write = %d, want %d", n, total)
		}
	}
	if got := s.Sum(); got != api.Hash(want.Sum(nil)) {
		t.Errorf("%d bytes: Sum = %x", total, got)
	}
}

func TestNew(t *testing.T) {
	nothing := hashOf(t, known[0].hash)
	s := sha.New()
	if got := s.Sum(); got != nothing {
		t.Errorf("New, Sum = %x", got)
	}
	for range 3 {
		if n := s.Write(nil); n != 0 {
			t.Error("Write(nil) =", n)
		}
		if n := s.Write([]byte{}); n != 0 {
			t.Error("Write of no bytes =", n)
		}
		if got := s.Sum(); got != nothing {
			t.Errorf("no bytes: Sum = %x", got)
		}
	}
}

// Each edge's bytes in two pieces, cut anywhere: one of them empty, or across a block's end, too.
func TestWriteInTwoPieces(t *testing.T) {
	all := mixed(200)
	for _, n := range edges {
		want := other(all[:n])
		for cut := range n + 1 {
			s := sha.New()
			if got := s.Write(all[:cut]); got != cut {
				t.Errorf("%d bytes: Write = %d", cut, got)
			}
			if got := s.Write(all[cut:n]); got != n {
				t.Errorf("%d bytes and %d: Write = %d", cut, n-cut, got)
			}
			if got := s.Sum(); got != want {
				t.Errorf("%d bytes and %d: Sum = %x, want %x", cut, n-cut, got, want)
			}
		}
	}
}

// Pieces of one length each, with empty ones between, and a Sum asked behind each piece, or only at the end.
func TestWriteInPiecesOfOneLength(t *testing.T) {
	all := mixed(400)
	for length := 1; length <= 200; length++ {
		asked, unasked := sha.New(), sha.New()
		for at := 0; at < len(all); {
			end := min(at+length, len(all))
			if n := asked.Write(all[at:end]); n != end {
				t.Fatalf("pieces of %d: Write = %d, want %d", length, n, end)
			}
			if n := asked.Write(nil); n != end {
				t.Fatalf("pieces of %d: Write(nil) = %d, want %d", length, n, end)
			}
			if got, want := asked.Sum(), other(all[:end]); got != want {
				t.Fatalf("pieces of %d: %d bytes: Sum = %x, want %x", length, end, got, want)
			}
			unasked.Write(all[at:end])
			at = end
		}
		if got, want := unasked.Sum(), other(all); got != want {
			t.Fatalf("pieces of %d: Sum = %x, want %x", length, got, want)
		}
	}
}

func TestWriteInUnlikePieces(t *testing.T) {
	all := mixed(3000)
	for step := range 40 {
		s := sha.New()
		at := 0
		for i := 0; at < len(all); i++ {
			end := min(at+(i*i*13+step*i*5+step)%171, len(all))
			if i%7 == 0 {
				end = at // an empty piece
			}
			if n := s.Write(all[at:end]); n != end {
				t.Fatalf("step %d, piece %d: Write = %d, want %d", step, i, n, end)
			}
			at = end
		}
		if got, want := s.Sum(), other(all); got != want {
			t.Errorf("step %d: Sum = %x, want %x", step, got, want)
		}
	}
}

// A Sum asks for no end: at each edge it is asked twice, and more is written behind it.
func TestSumInBetween(t *testing.T) {
	all := mixed(200)
	s := sha.New()
	at := 0
	for _, n := range edges {
		s.Write(all[at:n])
		at = n
		first, second := s.Sum(), s.Sum()
		if want := other(all[:n]); first != want || second != want {
			t.Errorf("%d bytes: Sum = %x, then %x, want %x", n, first, second, want)
		}
		if got := s.Write(nil); got != n {
			t.Errorf("%d bytes: behind a Sum, Write(nil) = %d", n, got)
		}
	}
	for _, n := range edges {
		s := sha.New()
		s.Write(all[:n])
		s.Sum()
		if got := s.Write(all[n:]); got != len(all) {
			t.Errorf("%d bytes, a Sum, and more: Write = %d", n, got)
		}
		if got, want := s.Sum(), other(all); got != want {
			t.Errorf("%d bytes, a Sum, and more: Sum = %x, want %x", n, got, want)
		}
	}
}

// Each object goes its own way.
func TestTwoShas(t *testing.T) {
	a, b := mixed(150), bytes.Repeat([]byte{7}, 150)
	s, u := sha.New(), sha.New()
	for i := range a {
		s.Write(a[i : i+1])
		u.Write(b[i : i+1])
		sha.Sum(b[:i])
	}
	if s.Sum() != other(a) || u.Sum() != other(b) {
		t.Errorf("two at once: %x, %x", s.Sum(), u.Sum())
	}
}

func TestHashMemory(t *testing.T) {
	for _, n := range edges {
		text := string(mixed(n))
		list, behind := within(text)
		want := other(list)
		if got := sha.Sum(list); got != want || !untouched(text, list, behind) {
			t.Errorf("%d bytes: Sum = %x, or what was handed in is changed", n, got)
		}
		s := sha.New()
		s.Write(list)
		if got := s.Sum(); got != want || !untouched(text, list, behind) {
			t.Errorf("%d bytes: Write, Sum = %x, or what was handed in is changed", n, got)
		}
		spoil(list)
		if got := s.Sum(); got != want {
			t.Errorf("%d bytes: Write keeps what was handed in: Sum = %x", n, got)
		}
	}
}

// P2.2

// rows are tags, rows, and what they are as a text.
var rows = []struct {
	name, tag string
	l         [][]byte
	want      string
}{
	{"no rows", "leaf", nil, "4:leaf,"},
	{"no rows, no tag", "", nil, "0:,"},
	{"one row", "leaf", [][]byte{[]byte("ab")}, "4:leaf,2:ab,"},
	{"several, in order", "node", [][]byte{[]byte("b"), []byte("a"), []byte("c")}, "4:node,1:b,1:a,1:c,"},
	{"an empty row", "x", [][]byte{{}}, "1:x,0:,"},
	{"a nil row", "x", [][]byte{nil}, "1:x,0:,"},
	{"empty rows about one", "x", [][]byte{nil, []byte("y"), {}}, "1:x,0:,1:y,0:,"},
	{"no tag", "", [][]byte{[]byte("y")}, "0:,1:y,"},
	{"a row within a row", "x", [][]byte{[]byte("1:y,")}, "1:x,4:1:y,,"},
	{"a tag like rows", "x,1:y", nil, "5:x,1:y,"},
	{"any bytes", "\x00\xff", [][]byte{{0xff, 0x00, 0x80}}, "2:\x00\xff,3:\xff\x00\x80,"},
	{"a tag of runes", "\u00e4\u20ac", nil, "5:\u00e4\u20ac,"},
	{"two digits", "0123456789", [][]byte{[]byte("0123456789a")}, "10:0123456789,11:0123456789a,"},
	{"a long row", "x", [][]byte{bytes.Repeat([]byte("z"), api.MaxBytes+1)}, "1:x,16385:" + strings.Repeat("z", api.MaxBytes+1) + ","},
	{"many rows", "x", make([][]byte, 100), "1:x," + strings.Repeat("0:,", 100)},
}

func TestText(t *testing.T) {
	for _, r := range rows {
		if got := sha.Text(r.tag, r.l...); string(got) != r.want {
			t.Errorf("%s: Text = %.60q, want %.60q", r.name, got, r.want)
		}
	}
	if got := sha.Text("x"); string(got) != "1:x," {
		t.Errorf("Text of a tag alone = %q", got)
	}
}

func TestTagged(t *testing.T) {
	for _, r := range rows {
		if got, want := sha.Tagged(r.tag, r.l...), other([]byte(r.want)); got != want {
			t.Errorf("%s: Tagged = %x, want %x", r.name, got, want)
		}
	}
	want := hashOf(t, "3b967332223fb12694acd96fba8d653cc8a973e62d02214274dec4af6e2f9d73")
	if got := sha.Tagged("pad"); got != want {
		t.Errorf("Tagged(pad) = %x", got)
	}
}

func TestShort(t *testing.T) {
	for _, r := range rows {
		hash := other([]byte(r.want))
		if got := sha.Short(r.tag, r.l...); got != api.Key(hash[:16]) {
			t.Errorf("%s: Short = %x, want the first 16 bytes of %x", r.name, got, hash)
		}
	}
}

// Where a tag ends, and where a row does, is hashed too.
func TestBordersOfRows(t *testing.T) {
	a, b, c, ab, bc := []byte("a"), []byte("b"), []byte("c"), []byte("ab"), []byte("bc")
	texts := map[string]string{}
	for _, r := range []struct {
		name, tag string
		l         [][]byte
	}{
		{"a, b, c", "a", [][]byte{b, c}},
		{"ab, c", "ab", [][]byte{c}},
		{"a, bc", "a", [][]byte{bc}},
		{"abc", "abc", nil},
		{"none, a, b, c", "", [][]byte{a, b, c}},
		{"none, ab, c", "", [][]byte{ab, c}},
		{"a, c, b", "a", [][]byte{c, b}},
		{"a, b, c, none", "a", [][]byte{b, c, nil}},
		{"a, none, b, c", "a", [][]byte{nil, b, c}},
		{"a, none", "a", [][]byte{nil}},
		{"a", "a", nil},
	} {
		hash, key := sha.Tagged(r.tag, r.l...), sha.Short(r.tag, r.l...)
		for _, s := range []string{string(sha.Text(r.tag, r.l...)), string(hash[:]), string(key[:])} {
			if before, ok := texts[s]; ok {
				t.Errorf("%s is like %s: %q", r.name, before, s)
			}
			texts[s] = r.name
		}
	}
}

func TestTextMemory(t *testing.T) {
	x, behindX := within("x")
	y, behindY := within("yy")
	held := [][]byte{x, y, []byte("behind the length")}
	l := held[:2]
	unchanged := func() bool {
		return untouched("x", x, behindX) && untouched("yy", y, behindY) &&
			&held[0][0] == &x[0] && &held[1][0] == &y[0] && string(held[2]) == "behind the length"
	}
	text := sha.Text("t", l...)
	if string(text) != "1:t,1:x,2:yy," || !unchanged() {
		t.Errorf("Text = %q, or what was handed in is changed", text)
	}
	spoil(text)
	if !unchanged() {
		t.Error("Text hands out what was handed in")
	}
	if again := sha.Text("t", l...); string(again) != "1:t,1:x,2:yy," {
		t.Errorf("Text hands out memory that it has handed out before: %q", again)
	}
	want := other([]byte("1:t,1:x,2:yy,"))
	if sha.Tagged("t", l...) != want || sha.Short("t", l...) != api.Key(want[:16]) || !unchanged() {
		t.Error("Tagged, Short: another hash, or what was handed in is changed")
	}
}

// No two unlike strings of one hash are known, so that no test can show a break: only what is none.
func TestSameOfNoBreak(t *testing.T) {
	block := mixed(64)
	for _, r := range []struct {
		name string
		a, b []byte
	}{
		{"nothing twice", nil, nil},
		{"nil and none", nil, []byte{}},
		{"none and nil", []byte{}, nil},
		{"like strings", []byte("ab"), []byte("ab")},
		{"one list twice", block, block},
		{"long like strings", mixed(1000), mixed(1000)},
		{"unlike strings", []byte("ab"), []byte("ac")},
		{"one is nothing", nil, []byte("a")},
		{"the other is nothing", []byte("a"), nil},
		{"a nought behind", []byte("a"), []byte("a\x00")},
		{"a nought alone", nil, []byte{0}},
		{"the beginning of the other", block[:55], block[:56]},
		{"a whole block, and one byte more", block, append(bytes.Clone(block), 0)},
		{"the last bytes are unlike", append(mixed(999), 1), append(mixed(999), 2)},
		{"a string and its hash's end", []byte("a"), []byte("a\x80")},
	} {
		if sha.Same(api.Break{A: r.a, B: r.b}) || sha.Same(api.Break{A: r.b, B: r.a}) {
			t.Errorf("%s: Same says that it is a break", r.name)
		}
	}
	if sha.Same(api.Break{}) {
		t.Error("Same says that no strings are a break")
	}
}

// Hashes that are alike in some bytes are unlike as a whole.
func TestSameOfHashesAlikeInPart(t *testing.T) {
	all := mixed(300)
	for i := range all {
		for j := range i {
			if sha.Same(api.Break{A: all[:i], B: all[:j]}) {
				t.Fatalf("Same says that %d bytes and %d are a break", i, j)
			}
		}
	}
	before := map[[4]byte]string{}
	found := 0
	for n := 0; found < 3; n++ {
		s := strconv.Itoa(n)
		hash := other([]byte(s))
		first := [4]byte(hash[:])
		if r, ok := before[first]; ok {
			found++
			if sha.Same(api.Break{A: []byte(r), B: []byte(s)}) {
				t.Errorf("Same says that %q and %q are a break", r, s)
			}
		}
		before[first] = s
	}
}

func TestSameMemory(t *testing.T) {
	a, behindA := within("like")
	b, behindB := within("unlike")
	sha.Same(api.Break{A: a, B: b})
	sha.Same(api.Break{A: a, B: a})
	if !untouched("like", a, behindA) || !untouched("unlike", b, behindB) {
		t.Error("Same: what was handed in is changed")
	}
}
