package wots_test

import (
	"bytes"
	"crypto/sha256"
	"encoding/hex"
	"math"
	"slices"
	"strconv"
	"strings"
	"testing"

	"aumbry/api"
	"aumbry/wots"
)

// tagged is another maker of a tagged hash.
func tagged(tag string, rows ...string) api.Hash {
	var text strings.Builder
	for _, row := range append([]string{tag}, rows...) {
		text.WriteString(strconv.Itoa(len(row)) + ":" + row + ",")
	}
	return sha256.Sum256([]byte(text.String()))
}

// digitsOf is another maker of Digits: a hexadecimal text, and the checksum as another one.
func digitsOf(m []byte) []int {
	hash := tagged("msg", string(m))
	digits := values(hex.EncodeToString(hash[:]))
	lack := 64 * 15
	for _, digit := range digits {
		lack -= digit
	}
	return append(digits, values(strconv.FormatInt(4096+int64(lack), 16)[1:])...)
}

// values is what hexadecimal letters stand for.
func values(letters string) []int {
	var all []int
	for _, letter := range letters {
		all = append(all, strings.IndexRune("0123456789abcdef", letter))
	}
	return all
}

// four is a number's four bytes, the greatest first.
func four(n uint32) string {
	return string([]byte{byte(n >> 24), byte(n >> 16), byte(n >> 8), byte(n)})
}

// startOf is another maker of Start.
func startOf(seed api.Key, leaf, chain uint32) api.Hash {
	return tagged("start", string(seed[:]), four(leaf), four(chain))
}

// walked is another maker of Along, for numbers of steps from 0 on.
func walked(h api.Hash, n int) api.Hash {
	if n == 0 {
		return h
	}
	return tagged("step", string(walkedBytes(h, n-1)))
}

func walkedBytes(h api.Hash, n int) []byte {
	h = walked(h, n)
	return h[:]
}

// valuesOf is what stands on each of a leaf's chains at its digit.
func valuesOf(seed api.Key, leaf uint32, digits []int) []api.Hash {
	var all []api.Hash
	for chain, digit := range digits {
		all = append(all, walked(startOf(seed, leaf, uint32(chain)), digit))
	}
	return all
}

// endsOf is all ends of a leaf's chains.
func endsOf(seed api.Key, leaf uint32) []api.Hash {
	return valuesOf(seed, leaf, slices.Repeat([]int{15}, 67))
}

// publicOf is another maker of the hash of ends: the tag's row, and behind it a row for each, laid by hand.
func publicOf(ends []api.Hash) api.Hash {
	text := []byte("6:public,")
	for _, end := range ends {
		text = append(text, "32:"...)
		text = append(text, end[:]...)
		text = append(text, ',')
	}
	return sha256.Sum256(text)
}

// row is n unlike hashes, others for another seed.
func row(n, seed int) []api.Hash {
	l := make([]api.Hash, n)
	for i := range l {
		l[i] = sha256.Sum256([]byte(strconv.Itoa(seed) + " " + strconv.Itoa(i)))
	}
	return l
}

// mixed is n bytes far from any rule.
func mixed(n int) []byte {
	b := make([]byte, n)
	for i := range b {
		b[i] = byte(i*i*31 + i*7 + i>>8 + 3)
	}
	return b
}

// keys are unlike seeds: noughts and the greatest one among them.
func keys() []api.Key {
	all := []api.Key{{}, {15: 1}, {0: 1}, api.Key(bytes.Repeat([]byte{255}, 16))}
	for n := range 3 {
		all = append(all, api.Key(mixed(16 + n)[n:]))
	}
	return all
}

// rising is the seed 0, 1, 2, ..
func rising() api.Key {
	var seed api.Key
	for i := range seed {
		seed[i] = byte(i)
	}
	return seed
}

// numbered is a number, and what it counts as where it is put as four bytes.
type numbered struct {
	n    int
	four uint32
}

// numbers are leaves and chains: of one, two, three and four bytes' size, below 0, and those that do not fit.
func numbers() []numbered {
	all := []numbered{
		{-1, 0}, {-2, 0}, {-256, 0}, {-1 << 31, 0}, {-1 << 32, 0}, {math.MinInt + 1, 0}, {math.MinInt, 0},
		{1 << 32, 0}, {1<<32 + 1, 1}, {1<<33 + 513, 513}, {1<<40 - 1, math.MaxUint32}, {math.MaxInt - 1, math.MaxUint32 - 1}, {math.MaxInt, math.MaxUint32},
	}
	for _, n := range []uint32{
		0, 1, 2, 15, 16, 66, 67, 127, 128, 255,
		256, 257, 258, 513, 1 << 15, 1<<16 - 1,
		1 << 16, 1<<16 + 1, 0x010203, 0x030201, 1<<24 - 1,
		1 << 24, 1<<24 + 1, 0x01020304, 0x04030201, 1<<31 - 1, 1 << 31, 1<<32 - 1,
	} {
		all = append(all, numbered{int(n), n})
	}
	return all
}

// messages are messages of many lengths and kinds.
func messages() [][]byte {
	all := [][]byte{nil, {}, {0}, {255}, {0, 0}, []byte("abc"), []byte("message"), []byte("message "), []byte(few), bytes.Repeat([]byte{255}, 64)}
	for _, n := range []int{1, 31, 32, 33, 48, 49, 55, 56, 63, 64, 65, 100, 119, 120, 1000, api.MaxData, api.MaxBytes, api.MaxBytes + 1} {
		all = append(all, mixed(n))
	}
	return all
}

// few is a message whose digits lack as little of the greatest one as could be found: 252.
const few = "5274466992"

// P8.1: Digits

func TestKnownDigits(t *testing.T) {
	for m, want := range map[string]string{
		"":    "344ba11f5d7ed2ba3e033f16df8bb29af72bdc0f02de6e41c8b155787ac570961d6",
		"a":   "c734d29a3a3c5af065035d70c9beb328c299986d5de9891bf2dd78d03502da981da",
		"abc": "4104cea9ba64e2a5a5cea44f7933837498f46a108b8f58f9062154b981f716e71f1",
	} {
		if got := wots.Digits([]byte(m)); !slices.Equal(got, values(want)) {
			t.Errorf("Digits of %q = %d, want %s", m, got, want)
		}
	}
	if got := wots.Digits(nil); !slices.Equal(got, wots.Digits([]byte{})) {
		t.Errorf("Digits of nil = %d", got)
	}
}

// holdDigits holds a message's digits, and what is to be said of all digits.
func holdDigits(t *testing.T, m []byte) []int {
	t.Helper()
	got := wots.Digits(m)
	if want := digitsOf(m); len(got) != 67 || !slices.Equal(got, want) {
		t.Fatalf("Digits of %d bytes = %d, want %d", len(m), got, want)
	}
	lack := 0
	for i, digit := range got {
		if digit < 0 || digit > 15 {
			t.Errorf("Digits of %d bytes: %d at %d", len(m), digit, i)
		}
		if i < 64 {
			lack += 15 - digit
		}
	}
	if got[64]*256+got[65]*16+got[66] != lack {
		t.Errorf("Digits of %d bytes: the checksum is %d, want %d", len(m), got[64:], lack)
	}
	return got
}

func TestDigitsOfEachLength(t *testing.T) {
	lengths := []int{api.MaxData - 1, api.MaxData, api.MaxData + 1, api.MaxBytes - 1, api.MaxBytes, api.MaxBytes + 1, 1<<20 + 7}
	for n := range 400 {
		lengths = append(lengths, n)
	}
	for _, n := range lengths {
		for _, m := range [][]byte{mixed(n), make([]byte, n), bytes.Repeat([]byte{255}, n)} {
			holdDigits(t, m)
		}
	}
}

func TestDigitsOfEachByte(t *testing.T) {
	for x := range 256 {
		holdDigits(t, []byte{byte(x)})
		holdDigits(t, []byte{byte(x), 0})
		holdDigits(t, []byte{0, byte(x)})
	}
}

// A greatest digit of 3 asks for digits that lack 768 at least: no message of that kind can be found (some 10 of 10^17 have one); digits_test.go hands in hashes for it.
func TestChecksumByItsGreatestDigit(t *testing.T) {
	if got := holdDigits(t, []byte(few)); !slices.Equal(got[64:], []int{0, 15, 12}) {
		t.Errorf("the checksum of %q is %d", few, got[64:])
	}
	found := map[int]int{}
	for n := range 3000 {
		found[holdDigits(t, []byte(strconv.Itoa(n)))[64]]++
	}
	if found[1] < 1000 || found[2] < 100 || found[1]+found[2] != 3000 {
		t.Errorf("checksums by their greatest digit: %v", found)
	}
}

// P8.1: Start

func TestStart(t *testing.T) {
	for _, seed := range keys() {
		for _, leaf := range numbers() {
			for _, chain := range numbers() {
				got := wots.Start(seed, leaf.n, chain.n)
				if want := startOf(seed, leaf.four, chain.four); got != want {
					t.Errorf("Start(%x, %d, %d) = %x, want %x", seed, leaf.n, chain.n, got, want)
				}
			}
		}
	}
}

func TestKnownStart(t *testing.T) {
	for _, r := range []struct {
		seed        api.Key
		leaf, chain int
		want        string
	}{
		{api.Key{}, 0, 0, "24433dd6fe537878d688fd28ed578fe8359cb2d65340fdf247c33f48342f44ab"},
		{rising(), 258, 66, "9e9031bab9f76d7ab995f2921912a709a23ca8fff631e04f711e35b0ea6c2540"},
	} {
		if got := wots.Start(r.seed, r.leaf, r.chain); hex.EncodeToString(got[:]) != r.want {
			t.Errorf("Start(%x, %d, %d) = %x, want %s", r.seed, r.leaf, r.chain, got, r.want)
		}
	}
}

// Each of the three is in a start, whole and in its own place: no two starts of unlike ones are one.
func TestStartsAreUnlike(t *testing.T) {
	seen := map[api.Hash]string{}
	hold := func(seed api.Key, leaf, chain int) {
		name := hex.EncodeToString(seed[:]) + " " + strconv.Itoa(leaf) + " " + strconv.Itoa(chain)
		got := wots.Start(seed, leaf, chain)
		if other, ok := seen[got]; ok && other != name {
			t.Errorf("the starts of %s and of %s are one", name, other)
		}
		seen[got] = name
	}
	for _, seed := range keys() {
		for _, leaf := range numbers() {
			for _, chain := range numbers() {
				hold(seed, int(leaf.four), int(chain.four))
			}
		}
	}
	for at := range len(api.Key{}) {
		for _, turn := range []byte{1, 16, 128} {
			seed := rising()
			seed[at] ^= turn
			hold(seed, 258, 66)
		}
	}
}

// P8.1: Step

func TestStep(t *testing.T) {
	noughts := wots.Step(api.Hash{})
	if got := hex.EncodeToString(noughts[:]); got != "24c7734b9350082414bf20aac9b824a8ab71090c26bf3a03be12c9aea43beeed" {
		t.Errorf("Step of noughts = %s", got)
	}
	for _, h := range append(row(50, 1), api.Hash{}, api.Hash(bytes.Repeat([]byte{255}, 32))) {
		got := wots.Step(h)
		if want := tagged("step", string(h[:])); got != want {
			t.Errorf("Step(%x) = %x, want %x", h, got, want)
		}
		for _, tag := range []string{"", "start", "public", "msg", "leaf", "node", "Step"} {
			if got == tagged(tag, string(h[:])) {
				t.Errorf("Step(%x) is the hash of the tag %q", h, tag)
			}
		}
		if got == h || got == sha256.Sum256(h[:]) {
			t.Errorf("Step(%x) = %x", h, got)
		}
	}
}

// A step of what a start or a Public is made of is neither.
func TestStepIsAnotherTags(t *testing.T) {
	seed := rising()
	for leaf := range 3 {
		start := wots.Start(seed, leaf, 0)
		if got := wots.Step(start); got == start || got == wots.Start(seed, leaf, 1) || got == tagged("start", string(start[:])) {
			t.Errorf("Step(%x) = %x", start, got)
		}
		public := wots.Public(seed, leaf)
		if got := wots.Step(public); got == public || got == publicOf([]api.Hash{public}) {
			t.Errorf("Step(%x) = %x", public, got)
		}
	}
}

// Every byte of a hash is in its step.
func TestStepOfEachByte(t *testing.T) {
	h := row(1, 2)[0]
	for at := range h {
		other := h
		other[at] ^= 0x40
		got := wots.Step(other)
		if want := tagged("step", string(other[:])); got != want || got == wots.Step(h) {
			t.Errorf("Step(%x) = %x, want %x", other, got, want)
		}
	}
}

// P8.1: Along

func TestAlong(t *testing.T) {
	last := wots.Along(api.Hash{}, 15)
	if got := hex.EncodeToString(last[:]); got != "28da163f4b700d315ece854a3a5988d6156a1436af80d5f4853e4d89a806364c" {
		t.Errorf("Along of noughts, 15 = %s", got)
	}
	for _, h := range append(row(5, 3), api.Hash{}) {
		want := h
		for n := range 16 {
			if got := wots.Along(h, n); got != want || got != walked(h, n) {
				t.Errorf("Along(%x, %d) = %x, want %x", h, n, got, want)
			}
			want = wots.Step(want)
		}
	}
}

func TestAlongOutside(t *testing.T) {
	for _, h := range append(row(5, 4), api.Hash{}) {
		for _, n := range []int{-1, -2, -15, -16, -1 << 32, math.MinInt32, math.MinInt + 1, math.MinInt} {
			if got := wots.Along(h, n); got != h {
				t.Errorf("Along(%x, %d) = %x", h, n, got)
			}
		}
		for _, n := range []int{16, 17, 30, 31, 32, 67, 255, 256, 1 << 31, 1 << 32, 1<<32 + 1, 1 << 62, math.MaxInt - 1, math.MaxInt} {
			if got, want := wots.Along(h, n), walked(h, 15); got != want {
				t.Errorf("Along(%x, %d) = %x, want %x", h, n, got, want)
			}
		}
	}
}

func TestAlongInTwoWays(t *testing.T) {
	for _, h := range append(row(3, 5), api.Hash{}) {
		for n := range 16 {
			for k := range 16 - n {
				if got, want := wots.Along(wots.Along(h, n), k), wots.Along(h, n+k); got != want {
					t.Errorf("%d steps from %x, and %d more = %x, want %x", n, h, k, got, want)
				}
			}
		}
	}
}

// P8.2: Public

func TestKnownPublic(t *testing.T) {
	for _, r := range []struct {
		seed api.Key
		leaf int
		want string
	}{
		{api.Key{}, 0, "121d21c0feabd9c1e8bb89130d447cf562fbdb91fc4244b3df2226dd0ce9abc2"},
		{rising(), 7, "d8b6b59d9ed14b32c485d1713662dae38a5f87b0779b40bb30b9d5a95ecee8aa"},
	} {
		if got := wots.Public(r.seed, r.leaf); hex.EncodeToString(got[:]) != r.want {
			t.Errorf("Public(%x, %d) = %x, want %s", r.seed, r.leaf, got, r.want)
		}
	}
}

func TestPublic(t *testing.T) {
	seen := map[api.Hash]bool{}
	for _, seed := range keys() {
		for leaf := range uint32(17) {
			got := wots.Public(seed, int(leaf))
			if want := publicOf(endsOf(seed, leaf)); got != want {
				t.Errorf("Public(%x, %d) = %x, want %x", seed, leaf, got, want)
			}
			if seen[got] {
				t.Errorf("Public(%x, %d) = %x is another one's, too", seed, leaf, got)
			}
			seen[got] = true
		}
	}
}

func TestPublicOfAnyLeaf(t *testing.T) {
	seed := rising()
	for _, leaf := range numbers() {
		if got, want := wots.Public(seed, leaf.n), publicOf(endsOf(seed, leaf.four)); got != want {
			t.Errorf("Public(%x, %d) = %x, want %x", seed, leaf.n, got, want)
		}
	}
}

// P8.2: Sign

func TestKnownSign(t *testing.T) {
	var all []byte
	for _, value := range wots.Sign(rising(), 7, []byte("abc")) {
		all = append(all, value[:]...)
	}
	hash := sha256.Sum256(all)
	if got := hex.EncodeToString(hash[:]); got != "78234611a5114f91a3e29bf34b1de79b18fc5addc886145dea0377a3caa0ba28" {
		t.Errorf("Sign = %x", all)
	}
}

// holdSign holds a signature: each value stands on its own chain at its own digit.
func holdSign(t *testing.T, seed api.Key, leaf numbered, m []byte) {
	t.Helper()
	got := wots.Sign(seed, leaf.n, m)
	if want := valuesOf(seed, leaf.four, digitsOf(m)); !slices.Equal(got, want) {
		t.Fatalf("Sign(%x, %d, %d bytes) = %x, want %x", seed, leaf.n, len(m), got, want)
	}
	for chain, digit := range wots.Digits(m) {
		if want := wots.Along(wots.Start(seed, leaf.n, chain), digit); got[chain] != want {
			t.Errorf("Sign(%x, %d, %d bytes): %x on chain %d, want %x", seed, leaf.n, len(m), got[chain], chain, want)
		}
	}
}

func TestSignMessages(t *testing.T) {
	for _, m := range messages() {
		holdSign(t, rising(), numbered{3, 3}, m)
	}
	for n := range 200 {
		holdSign(t, api.Key{}, numbered{0, 0}, mixed(n))
	}
}

func TestSignWithAnySeedAndLeaf(t *testing.T) {
	for _, seed := range keys() {
		for _, leaf := range []numbered{{0, 0}, {1, 1}, {15, 15}} {
			holdSign(t, seed, leaf, []byte("message"))
		}
	}
	for _, leaf := range numbers() {
		holdSign(t, rising(), leaf, []byte("message"))
	}
}

// Every digit there is stands on some chain of these messages, and on chains of the checksum, too.
func TestSignHasEveryDigit(t *testing.T) {
	found := map[int]int{}
	for _, m := range messages() {
		for _, digit := range wots.Digits(m) {
			found[digit]++
		}
	}
	for digit := range 16 {
		if found[digit] == 0 {
			t.Errorf("no message has the digit %d", digit)
		}
	}
}
