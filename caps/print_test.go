package caps_test

import (
	"bytes"
	"strings"
	"testing"

	"aumbry/api"
	"aumbry/caps"
)

// P13.4

const (
	keyText = "aaaqeayeaudaocajbifqydiob4"                           // of the bytes 0 to 15
	fpText  = "mrswmz3infvgw3dnnzxxa4lson2hk5txpb4xu634pv7h7aebqkbq" // of the bytes 100 to 131
)

// counted hands out a capability of a kind with the key and the Fp of those two texts.
func counted(kind, k, n, size int) api.Cap {
	c := api.Cap{Kind: kind, K: k, N: n, Size: size}
	for i := range c.Key {
		c.Key[i] = byte(i)
	}
	for i := range c.Fp {
		c.Fp[i] = byte(100 + i)
	}
	return c
}

// known are capabilities and their texts to the byte.
func known() []struct {
	c    api.Cap
	text string
} {
	full := api.Key(bytes.Repeat([]byte{255}, 16))
	fullFp := api.Hash(bytes.Repeat([]byte{255}, 32))
	return []struct {
		c    api.Cap
		text string
	}{
		{counted(api.FileRead, 1, 1, 1), "au:file:" + keyText + ":" + fpText + ":1:1:1"},
		{counted(api.FileRead, 3, 10, 777), "au:file:" + keyText + ":" + fpText + ":3:10:777"},
		{counted(api.FileRead, 9, 12, 10), "au:file:" + keyText + ":" + fpText + ":9:12:10"},
		{counted(api.FileRead, 10, 10, 100), "au:file:" + keyText + ":" + fpText + ":10:10:100"},
		{counted(api.FileRead, 16, 16, 1024), "au:file:" + keyText + ":" + fpText + ":16:16:1024"},
		{counted(api.FileVerify, 1, 9, 1000), "au:file-verify:" + keyText + ":" + fpText + ":1:9:1000"},
		{counted(api.FileVerify, 2, 16, 99), "au:file-verify:" + keyText + ":" + fpText + ":2:16:99"},
		{counted(api.SlotWrite, 0, 0, 0), "au:slot:" + keyText + ":" + fpText},
		{counted(api.SlotRead, 0, 0, 0), "au:slot-read:" + keyText + ":" + fpText},
		{counted(api.SlotVerify, 0, 0, 0), "au:slot-verify:" + keyText + ":" + fpText},
		{counted(api.DirWrite, 0, 0, 0), "au:dir:" + keyText + ":" + fpText},
		{counted(api.DirRead, 0, 0, 0), "au:dir-read:" + keyText + ":" + fpText},
		{counted(api.DirVerify, 0, 0, 0), "au:dir-verify:" + keyText + ":" + fpText},
		{api.Cap{Kind: api.SlotWrite}, "au:slot:" + strings.Repeat("a", 26) + ":" + strings.Repeat("a", 52)},
		{api.Cap{Kind: api.DirRead, Key: full, Fp: fullFp}, "au:dir-read:" + strings.Repeat("7", 25) + "4:" + strings.Repeat("7", 51) + "q"},
		{api.Cap{Kind: api.Literal}, "au:lit:"}, // the chapter's example
		{api.Cap{Kind: api.Literal, Lit: []byte{}}, "au:lit:"},
		{api.Cap{Kind: api.Literal, Lit: []byte{0}}, "au:lit:aa"},
		{api.Cap{Kind: api.Literal, Lit: []byte("a")}, "au:lit:me"},
		{api.Cap{Kind: api.Literal, Lit: []byte("hi")}, "au:lit:nbuq"},
		{api.Cap{Kind: api.Literal, Lit: []byte("hey")}, "au:lit:nbsxs"},
		{api.Cap{Kind: api.Literal, Lit: []byte("four")}, "au:lit:mzxxk4q"},
		{api.Cap{Kind: api.Literal, Lit: []byte("fives")}, "au:lit:mzuxmzlt"},
		{api.Cap{Kind: api.Literal, Lit: []byte("sixsix")}, "au:lit:onuxq43jpa"},
		{api.Cap{Kind: api.Literal, Lit: make([]byte, 64)}, "au:lit:" + strings.Repeat("a", 103)},
		{api.Cap{Kind: api.Literal, Lit: bytes.Repeat([]byte{255}, 64)}, "au:lit:" + strings.Repeat("7", 102) + "y"},
	}
}

func TestPrintOfKnown(t *testing.T) {
	for _, of := range known() {
		if s, err := caps.Print(of.c); err != api.OK || s != of.text {
			t.Errorf("Print of %s = %q, %d; it is %q", show(of.c), s, err, of.text)
		}
	}
}

func TestPrintOfValid(t *testing.T) {
	for _, c := range allValid() {
		want, _ := otherPrint(c)
		if s, err := caps.Print(c); err != api.OK || s != want {
			t.Errorf("Print of %s = %q, %d; it is %q", show(c), s, err, want)
		}
	}
}

// Each K, N and Size that there is.
func TestPrintOfNumbers(t *testing.T) {
	for _, kind := range []int{api.FileRead, api.FileVerify} {
		for k := 1; k <= 16; k++ {
			for n := k; n <= 16; n++ {
				there(t, counted(kind, k, n, 1000-61*k+n))
			}
		}
		for size := 1; size <= 1024; size++ {
			there(t, counted(kind, 1, 16, size))
		}
	}
}

// there holds a Valid capability's Print against the other maker, and Parse of it against the capability.
func there(t *testing.T, c api.Cap) {
	t.Helper()
	want, _ := otherPrint(c)
	s, err := caps.Print(c)
	if err != api.OK || s != want {
		t.Errorf("Print of %s = %q, %d; it is %q", show(c), s, err, want)
	}
	back, err := caps.Parse(s)
	isCap(t, "Parse of "+s, back, err, c, api.OK)
}

func TestPrintOfLengths(t *testing.T) {
	for length := range 65 {
		there(t, api.Cap{Kind: api.Literal, Lit: bytesOf(length)})
		there(t, api.Cap{Kind: api.Literal, Lit: make([]byte, length)})
	}
}

func TestPrintOfWrong(t *testing.T) {
	for _, c := range allWrong() {
		if s, err := caps.Print(c); err != api.ErrCap || s != "" {
			t.Errorf("Print of %s = %q, %d", show(c), s, err)
		}
	}
}
