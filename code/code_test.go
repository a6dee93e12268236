package code_test

import (
	"bytes"
	"encoding/base32"
	"math"
	"runtime"
	"strings"
	"testing"

	"aumbry/api"
	"aumbry/code"
)

// empty says whether nothing was handed out: nil and the empty list are the same.
func empty(b []byte) bool { return len(b) == 0 }

// within hands out a list with more memory behind its length, and that memory.
func within(s string) (list, behind []byte) {
	b := []byte(s + "????????")
	return b[:len(s)], b[len(s):]
}

// untouched says whether the list and what is behind it are as within made them.
func untouched(s string, list, behind []byte) bool {
	return string(list) == s && string(behind) == "????????"
}

// spoil writes over a list and over what its memory has behind it.
func spoil(b []byte) {
	b = b[:cap(b)]
	for i := range b {
		b[i] = '#'
	}
}

// P1.1

func TestPut(t *testing.T) {
	for _, r := range []struct {
		name     string
		n, width int
		want     []byte
	}{
		{"nought", 0, 1, []byte{0}},
		{"one byte", 255, 1, []byte{255}},
		{"the greatest first", 0x010203, 3, []byte{1, 2, 3}},
		{"noughts ahead", 258, 4, []byte{0, 0, 1, 2}},
		{"seven bytes", 0x01020304050607, 7, []byte{1, 2, 3, 4, 5, 6, 7}},
		{"eight bytes", 0x0102030405060708, 8, []byte{1, 2, 3, 4, 5, 6, 7, 8}},
		{"the greatest number", math.MaxInt, 8, []byte{127, 255, 255, 255, 255, 255, 255, 255}},
		{"does not fit by one", 256, 1, []byte{0}},
		{"does not fit", 0x010203, 2, []byte{2, 3}},
		{"does not fit at all", 7, 0, nil},
		{"width below 0", 7, -1, nil},
		{"the least width", 7, math.MinInt, nil},
		{"width above 8", 258, 9, []byte{0, 0, 0, 0, 0, 0, 1, 2}},
		{"the greatest width", 258, math.MaxInt, []byte{0, 0, 0, 0, 0, 0, 1, 2}},
		{"number below 0", -1, 3, []byte{0, 0, 0}},
		{"the least number", math.MinInt, 8, make([]byte, 8)},
		{"both below 0", -5, -5, nil},
	} {
		if got := code.Put(r.n, r.width); !bytes.Equal(got, r.want) {
			t.Errorf("%s: Put(%d, %d) = %v, want %v", r.name, r.n, r.width, got, r.want)
		}
	}
}

func TestGet(t *testing.T) {
	for _, r := range []struct {
		name string
		b    []byte
		want int
		ok   bool
	}{
		{"nil", nil, 0, true},
		{"no bytes", []byte{}, 0, true},
		{"one byte", []byte{255}, 255, true},
		{"the greatest first", []byte{1, 2, 3}, 0x010203, true},
		{"noughts ahead", []byte{0, 0, 1, 2}, 258, true},
		{"seven bytes", bytes.Repeat([]byte{255}, 7), 1<<56 - 1, true},
		{"eight bytes", bytes.Repeat([]byte{255}, 8), 0, false},
		{"eight noughts", make([]byte, 8), 0, false},
		{"eight bytes of a small number", []byte{0, 0, 0, 0, 0, 0, 0, 5}, 0, false},
		{"many bytes", make([]byte, 1000), 0, false},
	} {
		if got, ok := code.Get(r.b); got != r.want || ok != r.ok {
			t.Errorf("%s: Get(%v) = %d, %v, want %d, %v", r.name, r.b, got, ok, r.want, r.ok)
		}
	}
}

func TestGetOfPut(t *testing.T) {
	for width := range 8 {
		most := 1<<(8*width) - 1
		for _, n := range []int{0, 1, most / 3, most - 1, most} {
			n = min(max(n, 0), most)
			if got, ok := code.Get(code.Put(n, width)); got != n || !ok {
				t.Errorf("Get(Put(%d, %d)) = %d, %v", n, width, got, ok)
			}
		}
		if got, ok := code.Get(code.Put(most+1, width)); got != 0 || !ok {
			t.Errorf("Get(Put(%d, %d)) = %d, %v: what does not fit is cut off", most+1, width, got, ok)
		}
	}
}

func TestNumbersMemory(t *testing.T) {
	spoil(code.Put(258, 2))
	if got := code.Put(258, 2); !bytes.Equal(got, []byte{1, 2}) {
		t.Error("Put hands out memory that it has handed out before:", got)
	}
	list, behind := within("\x01\x02")
	if n, ok := code.Get(list); n != 258 || !ok || !untouched("\x01\x02", list, behind) {
		t.Error("Get:", n, ok, list, behind)
	}
}

// P1.2

func TestNet(t *testing.T) {
	long := strings.Repeat("x", api.MaxBytes+1)
	for _, r := range []struct{ name, b, want string }{
		{"the chapter's example", "ab", "2:ab,"},
		{"nothing", "", "0:,"},
		{"two digits", "0123456789", "10:0123456789,"},
		{"a row", "1:y,", "4:1:y,,"},
		{"any bytes", "\x00\xff", "2:\x00\xff,"},
		{"longer than what is taken", long, "16385:" + long + ","},
	} {
		if got := code.Net([]byte(r.b)); string(got) != r.want {
			t.Errorf("%s: Net = %.40q, want %.40q", r.name, got, r.want)
		}
	}
	if got := code.Net(nil); string(got) != "0:," {
		t.Errorf("Net(nil) = %q", got)
	}
}

func TestNets(t *testing.T) {
	for _, r := range []struct {
		name string
		l    [][]byte
		want string
	}{
		{"none", nil, ""},
		{"one", [][]byte{[]byte("ab")}, "2:ab,"},
		{"several, in order", [][]byte{[]byte("x"), nil, {}, []byte("1:y,")}, "1:x,0:,0:,4:1:y,,"},
	} {
		if got := code.Nets(r.l...); string(got) != r.want {
			t.Errorf("%s: Nets = %q, want %q", r.name, got, r.want)
		}
	}
	if got := code.Nets(); !empty(got) {
		t.Errorf("Nets() = %q", got)
	}
}

func TestTakeNet(t *testing.T) {
	most := strings.Repeat("x", api.MaxBytes)
	for _, r := range []struct{ name, b, item, rest string }{
		{"one row", "2:ab,", "ab", ""},
		{"nothing in it", "0:,", "", ""},
		{"two digits", "10:0123456789,z", "0123456789", "z"},
		{"a nought behind", "20:01234567890123456789,", "01234567890123456789", ""},
		{"another row behind", "2:ab,1:c,", "ab", "1:c,"},
		{"no row behind", "2:ab,,:9", "ab", ",:9"},
		{"a comma in it", "1:,,", ",", ""},
		{"digits in it", "3:0:1,", "0:1", ""},
		{"the longest", "16384:" + most + ",r", most, "r"},
	} {
		item, rest, ok := code.TakeNet([]byte(r.b))
		if string(item) != r.item || string(rest) != r.rest || !ok {
			t.Errorf("%s: TakeNet(%.40q) = %.40q, %.40q, %v", r.name, r.b, item, rest, ok)
		}
	}
}

// wrongRows begin with no row.
var wrongRows = []struct{ name, b string }{
	{"nothing", ""},
	{"no length", ":ab,"},
	{"no length of nothing", ":,"},
	{"only a colon", ":"},
	{"only a comma", ","},
	{"only digits", "2"},
	{"no bytes", "2:"},
	{"too few bytes", "3:ab"},
	{"a comma too early", "3:ab,"},
	{"no comma", "2:ab"},
	{"no comma behind nothing", "0:"},
	{"another end", "2:ab;"},
	{"too many bytes", "2:abc,"},
	{"another colon", "2;ab,"},
	{"a nought ahead", "02:ab,"},
	{"two noughts", "00:,"},
	{"noughts alone", strings.Repeat("0", 100) + ":,"},
	{"a sign", "+2:ab,"},
	{"below 0", "-1:,"},
	{"below 0 and 0", "-0:,"},
	{"a space ahead", " 2:ab,"},
	{"a space behind", "2 :ab,"},
	{"a letter", "a:0123456789,"},
	{"a digit and a letter", "1a:x,"},
	{"other digits", "\u0662:ab,"},
	{"the byte ahead of 0", "/:" + strings.Repeat("x", 255) + ","},
	{"above MaxBytes", "16385:" + strings.Repeat("x", api.MaxBytes+1) + ","},
	{"six digits", "100000:" + strings.Repeat("x", 100000) + ","},
	{"2 to the 64 and 2", "18446744073709551618:ab,"},
	{"many digits", strings.Repeat("9", 1000) + ":ab,"},
}

func TestTakeNetOfNone(t *testing.T) {
	for _, r := range wrongRows {
		if item, rest, ok := code.TakeNet([]byte(r.b)); ok || !empty(item) || !empty(rest) {
			t.Errorf("%s: TakeNet(%.40q) = %.40q, %.40q, %v", r.name, r.b, item, rest, ok)
		}
	}
	if item, rest, ok := code.TakeNet(nil); ok || !empty(item) || !empty(rest) {
		t.Errorf("TakeNet(nil) = %q, %q, %v", item, rest, ok)
	}
}

func TestTakeNets(t *testing.T) {
	for _, r := range []struct {
		name, b string
		want    []string
	}{
		{"none", "", nil},
		{"one", "1:x,", []string{"x"}},
		{"several, in order", "1:x,0:,4:1:y,,2:ab,", []string{"x", "", "1:y,", "ab"}},
		{"as many as there are bytes", strings.Repeat("0:,", 50), make([]string, 50)},
	} {
		l, ok := code.TakeNets([]byte(r.b), len(r.want))
		if !ok || len(l) != len(r.want) {
			t.Errorf("%s: TakeNets(%q) = %q, %v", r.name, r.b, l, ok)
			continue
		}
		for i, item := range l {
			if string(item) != r.want[i] {
				t.Errorf("%s: item %d = %q, want %q", r.name, i, item, r.want[i])
			}
		}
	}
}

func TestTakeNetsOfOthers(t *testing.T) {
	for _, r := range []struct {
		name, b string
		n       int
	}{
		{"a count below 0", "", -1},
		{"a count below 0, and a row", "1:x,", -1},
		{"the least count", "", math.MinInt},
		{"none of one", "1:x,", 0},
		{"one of none", "", 1},
		{"too few", "1:x,0:,", 3},
		{"too many", "1:x,0:,", 1},
		{"the greatest count", "1:x,0:,", math.MaxInt},
		{"something behind", "1:x,z", 1},
		{"something ahead", "z1:x,", 1},
		{"something between", "1:x, 1:y,", 2},
		{"a nought behind", "1:x,\x00", 1},
		{"the last is not whole", "1:x,2:y,", 2},
		{"the first has a nought ahead", "01:x,1:y,", 2},
	} {
		if l, ok := code.TakeNets([]byte(r.b), r.n); ok || len(l) != 0 {
			t.Errorf("%s: TakeNets(%q, %d) = %q, %v", r.name, r.b, r.n, l, ok)
		}
	}
	for _, r := range wrongRows {
		if l, ok := code.TakeNets([]byte(r.b), 1); ok || len(l) != 0 {
			t.Errorf("%s: TakeNets(%.40q, 1) = %.40q, %v", r.name, r.b, l, ok)
		}
		if l, ok := code.TakeNets([]byte("1:x,"+r.b), 2); ok || len(l) != 0 {
			t.Errorf("%s behind a row: TakeNets(.., 2) = %.40q, %v", r.name, l, ok)
		}
	}
}

func TestTakeNetsOfNets(t *testing.T) {
	var l [][]byte
	for n := range 120 {
		item := bytes.Repeat([]byte{byte(n), ',', ':', '0'}, n)[:n]
		l = append(l, item)
		got, ok := code.TakeNets(code.Nets(l...), len(l))
		if !ok || len(got) != len(l) {
			t.Fatalf("%d rows: %d, %v", len(l), len(got), ok)
		}
		for i := range l {
			if !bytes.Equal(got[i], l[i]) {
				t.Fatalf("%d rows: item %d = %q", len(l), i, got[i])
			}
		}
	}
}

// R1: a long input ends soon: a walk that copied the rest at each row would take memory by the square.
func TestTakeNetsOfMany(t *testing.T) {
	const rows = 1 << 14
	b := bytes.Repeat([]byte("1:x,"), rows)
	var before, behind runtime.MemStats
	runtime.ReadMemStats(&before)
	l, ok := code.TakeNets(b, rows)
	runtime.ReadMemStats(&behind)
	if !ok || len(l) != rows {
		t.Error(len(l), ok)
	}
	if took := behind.TotalAlloc - before.TotalAlloc; took > uint64(500*len(b)) {
		t.Errorf("TakeNets took %d bytes of memory for %d", took, len(b))
	}
}

func TestRowsMemory(t *testing.T) {
	x, behindX := within("x")
	y, behindY := within("yy")
	l := [][]byte{x, y}
	spoil(code.Net(x))
	spoil(code.Nets(x))
	spoil(code.Nets(l...))
	if !untouched("x", x, behindX) || !untouched("yy", y, behindY) || &l[0][0] != &x[0] {
		t.Error("Net, Nets: what was handed in is changed")
	}

	const row = "2:ab,3:cde,"
	b, behind := within(row)
	item, rest, _ := code.TakeNet(b)
	spoil(item)
	if string(rest) != "3:cde," {
		t.Errorf("TakeNet: the item and the rest share memory: %q", rest)
	}
	spoil(rest)
	items, _ := code.TakeNets(b, 2)
	spoil(items[0])
	if string(items[1]) != "cde" {
		t.Errorf("TakeNets: two items share memory: %q", items[1])
	}
	spoil(items[1])
	if !untouched(row, b, behind) {
		t.Errorf("TakeNet, TakeNets: what was handed in is changed, or kept: %q %q", b, behind)
	}
}

// What is behind the length is not read, even where it would make the row whole.
func TestRowsBehindTheLength(t *testing.T) {
	b := []byte("2:ab,")
	for n := range b {
		if item, rest, ok := code.TakeNet(b[:n]); ok || !empty(item) || !empty(rest) {
			t.Errorf("TakeNet(%q) = %q, %q, %v", b[:n], item, rest, ok)
		}
		if l, ok := code.TakeNets(b[:n], 1); ok || len(l) != 0 {
			t.Errorf("TakeNets(%q, 1) = %q, %v", b[:n], l, ok)
		}
	}
}

// P1.3

// texts are rows of bytes and their Base32.
var texts = []struct{ b, s string }{
	{"", ""},
	{"\x00", "aa"},
	{"\xff", "74"},
	{"\x00\x00\x00\x00\x00", "aaaaaaaa"},
	{"\xff\xff\xff\xff\xff", "77777777"},
	{"f", "my"},
	{"fo", "mzxq"},
	{"foo", "mzxw6"},
	{"foob", "mzxw6yq"},
	{"fooba", "mzxw6ytb"},
	{"foobar", "mzxw6ytboi"},
	{"\x00\x44\x32\x14\xc7\x42\x54\xb6\x35\xcf\x84\x65\x3a\x56\xd7\xc6\x75\xbe\x77\xdf", "abcdefghijklmnopqrstuvwxyz234567"},
}

func TestBase32(t *testing.T) {
	for _, r := range texts {
		if got := code.Base32([]byte(r.b)); got != r.s {
			t.Errorf("Base32(%q) = %q, want %q", r.b, got, r.s)
		}
	}
	if got := code.Base32(nil); got != "" {
		t.Errorf("Base32(nil) = %q", got)
	}
}

func TestBytes32(t *testing.T) {
	for _, r := range texts {
		if got, ok := code.Bytes32(r.s); string(got) != r.b || !ok {
			t.Errorf("Bytes32(%q) = %q, %v, want %q", r.s, got, ok, r.b)
		}
	}
}

func TestBytes32OfNone(t *testing.T) {
	for _, r := range []struct{ name, s string }{
		{"one letter", "a"},
		{"three letters", "aaa"},
		{"six letters", "aaaaaa"},
		{"nine letters", "aaaaaaaaa"},
		{"eleven letters", "mzxw6ytboia"},
		{"two letters, the last missing digit 1", "ab"},
		{"two letters, the first missing digit 1", "ac"},
		{"four letters, a missing digit 1", "mzxb"},
		{"four letters, the first missing digit 1", "aaai"},
		{"five letters, the missing digit 1", "aaaab"},
		{"seven letters, a missing digit 1", "aaaaaab"},
		{"seven letters, the first missing digit 1", "aaaaaae"},
		{"a great letter", "AA"},
		{"one great letter", "mY"},
		{"a 0", "0a"},
		{"a 1", "1a"},
		{"an 8", "8a"},
		{"a 9", "9a"},
		{"filling", "my======"},
		{"one byte of filling", "my="},
		{"a space ahead", " my"},
		{"a space within", "m y"},
		{"a line's end", "my\n"},
		{"a byte 0", "\x00\x00"},
		{"the byte behind z", "{a"},
		{"a byte of no rune", "\xff\xff"},
		{"a rune of two bytes", "\u00e4"},
		{"a wrong letter behind many", strings.Repeat("a", 64) + "!a"},
	} {
		if got, ok := code.Bytes32(r.s); ok || !empty(got) {
			t.Errorf("%s: Bytes32(%q) = %q, %v", r.name, r.s, got, ok)
		}
	}
}

// Against another maker of the same letters: each length, and each last letter.
func TestBase32AgainstTheLibrary(t *testing.T) {
	other := base32.NewEncoding("abcdefghijklmnopqrstuvwxyz234567").WithPadding(base32.NoPadding)
	for n := range 300 {
		b := make([]byte, n%24)
		for i := range b {
			b[i] = byte(n*131 + i*i*37 + 11)
		}
		s := code.Base32(b)
		if s != other.EncodeToString(b) {
			t.Fatalf("Base32(%v) = %q", b, s)
		}
		if got, ok := code.Bytes32(s); !ok || !bytes.Equal(got, b) {
			t.Fatalf("Bytes32(%q) = %v, %v", s, got, ok)
		}
	}
}

// There is just one text a row: each text of few letters is none, or the Base32 of what it tells.
func TestBytes32OfAllShortTexts(t *testing.T) {
	const some = "aeiqz27A="
	last := []string{""}
	for length := 1; length <= 5; length++ {
		var next []string
		for _, s := range last {
			for _, c := range some {
				next = append(next, s+string(c))
			}
		}
		right := 0
		for _, s := range next {
			b, ok := code.Bytes32(s)
			if ok && code.Base32(b) != s || !ok && !empty(b) {
				t.Fatalf("Bytes32(%q) = %v, %v", s, b, ok)
			}
			if ok {
				right++
			}
		}
		if none := length == 1 || length == 3; none != (right == 0) {
			t.Errorf("texts of %d letters: %d are right", length, right)
		}
		last = next
	}
}

func TestBase32Memory(t *testing.T) {
	list, behind := within("foob")
	if s := code.Base32(list); s != "mzxw6yq" || !untouched("foob", list, behind) {
		t.Error("Base32:", s, list, behind)
	}
	b, _ := code.Bytes32("mzxw6yq")
	spoil(b)
	if again, ok := code.Bytes32("mzxw6yq"); string(again) != "foob" || !ok {
		t.Error("Bytes32 hands out memory that it has handed out before:", again)
	}
}
