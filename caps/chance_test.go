package caps_test

import (
	"fmt"
	"math/rand"
	"strings"
	"testing"

	"aumbry/api"
	"aumbry/caps"
)

// Capabilities and texts drawn by chance, against the other maker.

func drawn(r *rand.Rand, usual, top int) int {
	switch r.Intn(12) {
	case 0:
		return numbers[r.Intn(len(numbers))]
	case 1:
		return top + 1
	case 2:
		return top
	case 3:
		return r.Intn(top+20) - 10
	}
	return usual
}

// drawCap draws a capability that is Valid, or nearly so; some come of an earlier one.
func drawCap(r *rand.Rand, from []api.Cap) api.Cap {
	if len(from) > 0 && r.Intn(3) == 0 {
		return from[r.Intn(len(from))]
	}
	c := sample(1 + r.Intn(9))
	if c.Kind != api.Literal {
		r.Read(c.Key[:])
		r.Read(c.Fp[:])
	}
	switch rules[c.Kind-1].form {
	case "file":
		c.N = drawn(r, 1+r.Intn(16), 16)
		c.K = drawn(r, 1+r.Intn(max(min(c.N, 16), 1)), max(min(c.N, 16), 1))
		c.Size = drawn(r, 1+r.Intn(1024), 1024)
	case "literal":
		c.Lit = make([]byte, r.Intn(70))
		r.Read(c.Lit)
	}
	for r.Intn(8) == 0 {
		spoilField(r, &c)
	}
	return c
}

func spoilField(r *rand.Rand, c *api.Cap) {
	switch r.Intn(7) {
	case 0:
		c.Kind = r.Intn(14) - 2
	case 1:
		c.K = drawn(r, 0, 16)
	case 2:
		c.N = drawn(r, 0, 16)
	case 3:
		c.Size = drawn(r, 0, 1024)
	case 4:
		c.Lit = make([]byte, r.Intn(3))
	case 5:
		c.Key[r.Intn(16)] ^= byte(1 << r.Intn(8))
	case 6:
		c.Fp[r.Intn(32)] ^= byte(1 << r.Intn(8))
	}
}

func TestCapsByChance(t *testing.T) {
	r := rand.New(rand.NewSource(13))
	var from []api.Cap
	count := map[bool]int{}
	for n := range 60000 {
		c := drawCap(r, from)
		what := fmt.Sprintf("drawn %d: %s", n, show(c))
		_, ok := ruleOf(c)
		count[ok]++
		if caps.Valid(c) != ok {
			t.Fatalf("%s: Valid = %v", what, !ok)
		}
		told := asked(t, what, c, r)
		if ok && r.Intn(4) == 0 {
			from = append(from, told...)
		}
		if len(from) > 0 {
			d := from[r.Intn(len(from))]
			if r.Intn(2) == 0 {
				d = c
				spoilField(r, &d)
			}
			if caps.Same(c, d) != otherSame(c, d) {
				t.Errorf("%s: Same with %s is %v", what, show(d), caps.Same(c, d))
			}
		}
		if t.Failed() {
			return
		}
	}
	if count[true] < 10000 || count[false] < 5000 {
		t.Errorf("drawn are %v", count)
	}
}

// asked asks all of one capability, and tells what capabilities came of it.
func asked(t *testing.T, what string, c api.Cap, r *rand.Rand) []api.Cap {
	t.Helper()
	var l []api.Cap
	keep := func(name string, got api.Cap, err api.Errno, want api.Cap, wantErr api.Errno) {
		t.Helper()
		isCap(t, what+": "+name, got, err, want, wantErr)
		if err == api.OK {
			l = append(l, got)
		}
	}
	got, err := caps.ReadOnly(c)
	want, wantErr := otherReadOnly(c)
	keep("ReadOnly", got, err, want, wantErr)
	got, err = caps.VerifyOnly(c)
	want, wantErr = otherVerifyOnly(c)
	keep("VerifyOnly", got, err, want, wantErr)
	got, err = caps.Dir(c)
	want, wantErr = otherDir(c)
	keep("Dir", got, err, want, wantErr)

	index, err := caps.Index(c)
	wantKey, wantErr := otherIndex(c)
	isKey(t, what+": Index", index, err, wantKey, wantErr)
	server := drawn(r, r.Intn(8), 65535)
	key, err := caps.Enabler(c, server)
	wantKey, wantErr = otherEnabler(c, server)
	isKey(t, what+": Enabler", key, err, wantKey, wantErr)
	key = caps.Renewal(c.Key, index, server)
	isKey(t, what+": Renewal", key, api.OK, short("renew", c.Key[:], index[:], two(server)), api.OK)

	rule, ok := ruleOf(c)
	if caps.CanRead(c) != (ok && rule.read != 0) || caps.CanWrite(c) != (ok && rule.writes) {
		t.Errorf("%s: CanRead and CanWrite are %v, %v", what, caps.CanRead(c), caps.CanWrite(c))
	}
	s, err := caps.Print(c)
	wantText, wantErr := otherPrint(c)
	if s != wantText || err != wantErr {
		t.Errorf("%s: Print = %q, %d; it is %q, %d", what, s, err, wantText, wantErr)
	}
	if err == api.OK {
		got, err = caps.Parse(s)
		keep("Parse of Print", got, err, c, api.OK)
	}
	return l
}

func TestTextsByChance(t *testing.T) {
	r := rand.New(rand.NewSource(31))
	pieces := []string{"au:", "au", ":", "file", "-verify", "-read", "slot", "dir", "lit", "0", "1", "16", "17", "777", "1024", "1025", "a", "aa", "me", "7", "q", keyText, fpText, "A", " ", "-", "+", "="}
	count := map[api.Errno]int{}
	for n := range 150000 {
		s, err := otherPrint(drawCap(r, nil))
		if err != api.OK {
			continue
		}
		for r.Intn(3) != 0 {
			s = turned(r, s, pieces)
		}
		c, err := caps.Parse(s)
		want, wantErr := otherParse(s)
		count[wantErr]++
		isCap(t, fmt.Sprintf("text %d: Parse of %q", n, s), c, err, want, wantErr)
		if err == api.OK {
			if back, err := caps.Print(c); back != s || err != api.OK {
				t.Errorf("text %d: Print of Parse of %q = %q, %d", n, s, back, err)
			}
		}
		if t.Failed() {
			return
		}
	}
	if count[api.OK] < 20000 || count[api.ErrForm] < 20000 {
		t.Errorf("drawn are %v", count)
	}
}

// turned draws another text, near the one.
func turned(r *rand.Rand, s string, pieces []string) string {
	from := r.Intn(len(s) + 1)
	to := min(from+r.Intn(3), len(s))
	if r.Intn(4) == 0 {
		to = from + r.Intn(len(s)+1-from)
	}
	piece := pieces[r.Intn(len(pieces))]
	switch r.Intn(6) {
	case 0:
		return s[:from] + s[to:]
	case 1:
		return s[:from] + piece + s[from:]
	case 2:
		return s[:from] + piece + s[to:]
	case 3:
		parts := strings.Split(s, ":")
		parts[r.Intn(len(parts))] = piece
		return strings.Join(parts, ":")
	case 4:
		parts := strings.Split(s, ":")
		i, j := r.Intn(len(parts)), r.Intn(len(parts))
		parts[i], parts[j] = parts[j], parts[i]
		return strings.Join(parts, ":")
	}
	b := []byte(s)
	if len(b) > 0 {
		b[r.Intn(len(b))] = "abcdefghijklmnopqrstuvwxyz234567:0189"[r.Intn(37)]
	}
	return string(b)
}
