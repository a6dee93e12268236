package caps_test

import (
	"bytes"
	"crypto/sha256"
	"encoding/base32"
	"encoding/binary"
	"fmt"
	"math"
	"regexp"
	"strconv"
	"testing"

	"aumbry/api"
)

// Another maker of the same answers: a row a kind, the library's SHA-256 and Base32, and texts taken by their form alone.

type rule struct {
	kind   int
	word   string
	form   string // what its fields may be: file, literal, slot
	read   int    // the kind of ReadOnly; 0: ErrCap
	verify int    // the kind of VerifyOnly; 0: ErrCap
	dir    int    // the kind of Dir; 0: ErrCap
	writes bool
	tags   []string // by which a key becomes the index
}

var rules = []rule{
	{1, "file", "file", 1, 2, 0, false, []string{"index"}},
	{2, "file-verify", "file", 0, 2, 0, false, nil},
	{3, "lit", "literal", 3, 0, 0, false, nil},
	{4, "slot", "slot", 5, 6, 7, true, []string{"read", "index"}},
	{5, "slot-read", "slot", 5, 6, 8, false, []string{"index"}},
	{6, "slot-verify", "slot", 0, 6, 9, false, nil},
	{7, "dir", "slot", 8, 9, 0, true, []string{"read", "index"}},
	{8, "dir-read", "slot", 8, 9, 0, false, []string{"index"}},
	{9, "dir-verify", "slot", 0, 9, 0, false, nil},
}

// ruleOf tells the row of a Valid capability; none: it is not Valid.
func ruleOf(c api.Cap) (rule, bool) {
	for _, r := range rules {
		if r.kind == c.Kind {
			return r, fits(r.form, c)
		}
	}
	return rule{}, false
}

func fits(form string, c api.Cap) bool {
	none := c.K == 0 && c.N == 0 && c.Size == 0
	switch form {
	case "file":
		return c.K >= 1 && c.K <= 16 && c.N >= c.K && c.N <= 16 && c.Size >= 1 && c.Size <= 1024 && len(c.Lit) == 0
	case "literal":
		return none && c.Key == api.Key{} && c.Fp == api.Hash{} && len(c.Lit) <= 64
	}
	return none && len(c.Lit) == 0
}

// short tells the first 16 bytes of the hash of a tag and rows.
func short(tag string, rows ...[]byte) api.Key {
	text := fmt.Sprintf("%d:%s,", len(tag), tag)
	for _, row := range rows {
		text += fmt.Sprintf("%d:%s,", len(row), row)
	}
	hash := sha256.Sum256([]byte(text))
	return api.Key(hash[:16])
}

// two tells a server's number as two bytes; below 0 it is 0.
func two(server int) []byte {
	return binary.BigEndian.AppendUint16(nil, uint16(max(server, 0)%65536))
}

// along tells a key turned by tags, one behind the other.
func along(key api.Key, tags ...string) api.Key {
	for _, tag := range tags {
		key = short(tag, key[:])
	}
	return key
}

func otherIndex(c api.Cap) (api.Key, api.Errno) {
	r, ok := ruleOf(c)
	if !ok || r.verify == 0 {
		return api.Key{}, api.ErrCap
	}
	return along(c.Key, r.tags...), api.OK
}

func otherReadOnly(c api.Cap) (api.Cap, api.Errno) {
	r, ok := ruleOf(c)
	if !ok || r.read == 0 {
		return api.Cap{}, api.ErrCap
	}
	told := api.Cap{Kind: r.read, Key: c.Key, Fp: c.Fp, K: c.K, N: c.N, Size: c.Size, Lit: c.Lit}
	if r.writes {
		told.Key = along(c.Key, "read")
	}
	return told, api.OK
}

func otherVerifyOnly(c api.Cap) (api.Cap, api.Errno) {
	r, ok := ruleOf(c)
	if !ok || r.verify == 0 {
		return api.Cap{}, api.ErrCap
	}
	return api.Cap{Kind: r.verify, Key: along(c.Key, r.tags...), Fp: c.Fp, K: c.K, N: c.N, Size: c.Size}, api.OK
}

func otherDir(c api.Cap) (api.Cap, api.Errno) {
	r, ok := ruleOf(c)
	if !ok || r.dir == 0 {
		return api.Cap{}, api.ErrCap
	}
	return api.Cap{Kind: r.dir, Key: c.Key, Fp: c.Fp}, api.OK
}

func otherEnabler(c api.Cap, server int) (api.Key, api.Errno) {
	r, ok := ruleOf(c)
	if !ok || !r.writes {
		return api.Key{}, api.ErrCap
	}
	return short("enable", c.Key[:], two(server)), api.OK
}

func alphabet() *base32.Encoding {
	return base32.NewEncoding("abcdefghijklmnopqrstuvwxyz234567").WithPadding(base32.NoPadding)
}

func otherPrint(c api.Cap) (string, api.Errno) {
	r, ok := ruleOf(c)
	if !ok {
		return "", api.ErrCap
	}
	switch r.form {
	case "literal":
		return "au:lit:" + alphabet().EncodeToString(c.Lit), api.OK
	case "file":
		return fmt.Sprintf("au:%s:%s:%s:%d:%d:%d", r.word, alphabet().EncodeToString(c.Key[:]), alphabet().EncodeToString(c.Fp[:]), c.K, c.N, c.Size), api.OK
	}
	return fmt.Sprintf("au:%s:%s:%s", r.word, alphabet().EncodeToString(c.Key[:]), alphabet().EncodeToString(c.Fp[:])), api.OK
}

// The last letters of Base32 have only noughts for the digits that are missing: of 1, 2, 3, 4 bytes, of a key, of an Fp.
const (
	one      = `[a-z2-7][aeimquy4]`
	pair     = `[a-z2-7]{3}[aq]`
	three    = `[a-z2-7]{4}[acegikmoqsuwy246]`
	four     = `[a-z2-7]{6}[aiqy]`
	keyForm  = `([a-z2-7]{25}[aeimquy4])`
	fpForm   = `([a-z2-7]{51}[aq])`
	number   = `([1-9][0-9]?)`
	sizeForm = `([1-9][0-9]{0,3})`
)

var (
	literalText = regexp.MustCompile(`\Aau:lit:((?:[a-z2-7]{8})*(?:|` + one + `|` + pair + `|` + three + `|` + four + `))\z`)
	slotText    = regexp.MustCompile(`\Aau:((?:slot|dir)(?:|-read|-verify)):` + keyForm + `:` + fpForm + `\z`)
	fileText    = regexp.MustCompile(`\Aau:(file(?:|-verify)):` + keyForm + `:` + fpForm + `:` + number + `:` + number + `:` + sizeForm + `\z`)
)

// otherParse takes a text by its form, and what comes of it only where it is Valid.
func otherParse(s string) (api.Cap, api.Errno) {
	var c api.Cap
	if m := literalText.FindStringSubmatch(s); m != nil {
		c = api.Cap{Kind: api.Literal, Lit: letters32(m[1])}
	} else if m := slotText.FindStringSubmatch(s); m != nil {
		c = api.Cap{Kind: kindOf(m[1]), Key: api.Key(letters32(m[2])), Fp: api.Hash(letters32(m[3]))}
	} else if m := fileText.FindStringSubmatch(s); m != nil {
		c = api.Cap{Kind: kindOf(m[1]), Key: api.Key(letters32(m[2])), Fp: api.Hash(letters32(m[3]))}
		c.K, _ = strconv.Atoi(m[4])
		c.N, _ = strconv.Atoi(m[5])
		c.Size, _ = strconv.Atoi(m[6])
	}
	if _, ok := ruleOf(c); !ok {
		return api.Cap{}, api.ErrForm
	}
	return c, api.OK
}

func letters32(s string) []byte {
	b, err := alphabet().DecodeString(s)
	if err != nil {
		panic(err)
	}
	return b
}

func kindOf(word string) int {
	for _, r := range rules {
		if r.word == word {
			return r.kind
		}
	}
	return 0
}

func otherSame(a, b api.Cap) bool {
	return fmt.Sprintf("%d %x %x %d %d %d %x", a.Kind, a.Key, a.Fp, a.K, a.N, a.Size, a.Lit) ==
		fmt.Sprintf("%d %x %x %d %d %d %x", b.Kind, b.Key, b.Fp, b.K, b.N, b.Size, b.Lit)
}

// What the tests hand in.

// keyOf hands out a key of unlike bytes.
func keyOf(n int) api.Key {
	h := sha256.Sum256([]byte(fmt.Sprintf("key %d", n)))
	return api.Key(h[3:19])
}

// fpOf hands out a hash.
func fpOf(n int) api.Hash { return sha256.Sum256([]byte(fmt.Sprintf("fp %d", n))) }

// bytesOf hands out n bytes.
func bytesOf(n int) []byte {
	b := make([]byte, n)
	for i := range b {
		b[i] = byte(i*37 + n)
	}
	return b
}

// sample hands out a Valid capability of a kind.
func sample(kind int) api.Cap {
	switch kind {
	case api.FileRead, api.FileVerify:
		return api.Cap{Kind: kind, Key: keyOf(kind), Fp: fpOf(kind), K: 3, N: 10, Size: 777}
	case api.Literal:
		return api.Cap{Kind: kind, Lit: []byte("some bytes")}
	}
	return api.Cap{Kind: kind, Key: keyOf(kind), Fp: fpOf(kind)}
}

// valid hands out Valid capabilities of a kind: the sample, and such as are at an end of what they may be.
func valid(kind int) []api.Cap {
	l := []api.Cap{sample(kind)}
	add := func(change func(c *api.Cap)) {
		c := sample(kind)
		change(&c)
		l = append(l, c)
	}
	switch kind {
	case api.FileRead, api.FileVerify:
		for _, of := range [][3]int{{1, 1, 1}, {1, 16, 1024}, {16, 16, 1024}, {10, 10, 10}, {9, 10, 99}, {2, 2, 1000}} {
			add(func(c *api.Cap) { c.K, c.N, c.Size = of[0], of[1], of[2] })
		}
	case api.Literal:
		for _, length := range []int{0, 1, 2, 3, 4, 5, 6, 63, 64} {
			add(func(c *api.Cap) { c.Lit = bytesOf(length) })
		}
		add(func(c *api.Cap) { c.Lit = nil })
		return l
	}
	add(func(c *api.Cap) { c.Lit = []byte{} })
	add(func(c *api.Cap) { c.Key = api.Key{} })
	add(func(c *api.Cap) { c.Fp = api.Hash{} })
	add(func(c *api.Cap) { c.Key, c.Fp = api.Key{}, api.Hash{} })
	add(func(c *api.Cap) {
		c.Key, c.Fp = api.Key(bytes.Repeat([]byte{255}, 16)), api.Hash(bytes.Repeat([]byte{255}, 32))
	})
	return l
}

// numbers are such as no field may be.
var numbers = []int{-1, -2, -255, -256, -65536, math.MinInt, math.MinInt32, math.MaxInt, math.MaxInt32, 1 << 20}

// wrong hands out capabilities of a kind that differ from a Valid one in one field, and are not Valid.
func wrong(kind int) []api.Cap {
	var l []api.Cap
	add := func(change func(c *api.Cap)) {
		c := sample(kind)
		change(&c)
		l = append(l, c)
	}
	for _, n := range numbers {
		add(func(c *api.Cap) { c.K = n })
		add(func(c *api.Cap) { c.N = n })
		add(func(c *api.Cap) { c.Size = n })
	}
	switch kind {
	case api.FileRead, api.FileVerify:
		add(func(c *api.Cap) { c.K = 0 })
		add(func(c *api.Cap) { c.K = c.N + 1 })
		add(func(c *api.Cap) { c.N = c.K - 1 })
		add(func(c *api.Cap) { c.N = 0 })
		add(func(c *api.Cap) { c.N = 17 })
		add(func(c *api.Cap) { c.K, c.N = 17, 17 })
		add(func(c *api.Cap) { c.K, c.N = 0, 0 })
		add(func(c *api.Cap) { c.K, c.N = -1, -1 })
		add(func(c *api.Cap) { c.K, c.N, c.Size = 0, 0, 0 })
		add(func(c *api.Cap) { c.Size = 0 })
		add(func(c *api.Cap) { c.Size = 1025 })
		add(func(c *api.Cap) { c.Lit = []byte{0} })
		return l
	case api.Literal:
		add(func(c *api.Cap) { c.Lit = bytesOf(65) })
		add(func(c *api.Cap) { c.Lit = bytesOf(1000) })
		for i := range 16 {
			add(func(c *api.Cap) { c.Key[i] = 1 })
		}
		for i := range 32 {
			add(func(c *api.Cap) { c.Fp[i] = 1 })
		}
		add(func(c *api.Cap) { c.Lit, c.Key = nil, keyOf(1) })
	default:
		add(func(c *api.Cap) { c.Lit = []byte{0} })
		add(func(c *api.Cap) { c.Lit = bytesOf(64) })
		add(func(c *api.Cap) { c.K, c.N, c.Size = 3, 10, 777 })
	}
	for _, n := range []int{1, 2, 16} {
		add(func(c *api.Cap) { c.K = n })
		add(func(c *api.Cap) { c.N = n })
		add(func(c *api.Cap) { c.Size = n })
	}
	return l
}

// strange hands out capabilities of kinds that there are not, otherwise as each of the samples, and one without anything.
func strange() []api.Cap {
	l := []api.Cap{{}}
	for _, kind := range append([]int{0, 10, 11, 12, 13, 257, 260, 263, 1<<32 + 4}, numbers...) {
		for _, r := range rules {
			c := sample(r.kind)
			c.Kind = kind
			l = append(l, c)
		}
		l = append(l, api.Cap{Kind: kind})
	}
	return l
}

// allWrong hands out all capabilities of the tests that are not Valid.
func allWrong() []api.Cap {
	l := strange()
	for _, r := range rules {
		l = append(l, wrong(r.kind)...)
	}
	return l
}

// allValid hands out all Valid capabilities of the tests.
func allValid() []api.Cap {
	var l []api.Cap
	for _, r := range rules {
		l = append(l, valid(r.kind)...)
	}
	return l
}

// show tells a capability in a test's complaint.
func show(c api.Cap) string {
	return fmt.Sprintf("kind %d, key %x, fp %x, K %d, N %d, Size %d, Lit %q", c.Kind, c.Key, c.Fp, c.K, c.N, c.Size, c.Lit)
}

// isCap holds a capability that was told against another one.
func isCap(t *testing.T, what string, c api.Cap, err api.Errno, want api.Cap, wantErr api.Errno) {
	t.Helper()
	if err != wantErr || !otherSame(c, want) {
		t.Errorf("%s = %s, %d; it is %s, %d", what, show(c), err, show(want), wantErr)
	}
}

// isKey holds a key that was told against another one.
func isKey(t *testing.T, what string, key api.Key, err api.Errno, want api.Key, wantErr api.Errno) {
	t.Helper()
	if err != wantErr || key != want {
		t.Errorf("%s = %x, %d; it is %x, %d", what, key, err, want, wantErr)
	}
}
