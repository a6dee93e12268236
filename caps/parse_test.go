package caps_test

import (
	"fmt"
	"strings"
	"testing"

	"aumbry/api"
	"aumbry/caps"
)

// P13.4

// parses holds Parse of a text against the other maker.
func parses(t *testing.T, s string) {
	t.Helper()
	c, err := caps.Parse(s)
	want, wantErr := otherParse(s)
	isCap(t, fmt.Sprintf("Parse of %q", s), c, err, want, wantErr)
}

// refuses says that a text is nobody's Print.
func refuses(t *testing.T, s string) {
	t.Helper()
	c, err := caps.Parse(s)
	isCap(t, fmt.Sprintf("Parse of %q", s), c, err, api.Cap{}, api.ErrForm)
}

func TestParseOfKnown(t *testing.T) {
	for _, of := range known() {
		c, err := caps.Parse(of.text)
		isCap(t, "Parse of "+of.text, c, err, of.c, api.OK)
	}
}

func TestParseOfPrint(t *testing.T) {
	for _, c := range allValid() {
		there(t, c)
	}
}

// texts are one of each form, short and long.
func texts() []string {
	var l []string
	for _, r := range rules {
		s, _ := otherPrint(sample(r.kind))
		l = append(l, s)
	}
	for _, length := range []int{0, 1, 2, 3, 4, 5, 63, 64} {
		s, _ := otherPrint(api.Cap{Kind: api.Literal, Lit: bytesOf(length)})
		l = append(l, s)
	}
	ends, _ := otherPrint(counted(api.FileRead, 16, 16, 1024))
	least, _ := otherPrint(counted(api.FileVerify, 1, 1, 1))
	return append(l, ends, least)
}

// Each byte of a text turned to each other one.
func TestParseOfTurnedBytes(t *testing.T) {
	for _, s := range texts() {
		for i := range len(s) {
			for b := range 256 {
				turned := []byte(s)
				turned[i] = byte(b)
				parses(t, string(turned))
			}
		}
	}
}

// Each byte of a text taken out, doubled, or with others ahead of it; the text cut off, or with others behind it.
func TestParseOfMoreAndFewerBytes(t *testing.T) {
	for _, s := range texts() {
		for i := range len(s) + 1 {
			parses(t, s[:i])
			parses(t, s[i:])
			for _, more := range []string{"a", "7", "0", "1", "9", ":", "::", " ", "\n", "\x00", "A", "=", "-", "+", "é", ",", "au:", "aaaaaaaa"} {
				parses(t, s[:i]+more+s[i:])
			}
			if i < len(s) {
				parses(t, s[:i]+s[i+1:])
				parses(t, s[:i+1]+s[i:])
			}
			if i+2 <= len(s) {
				parses(t, s[:i]+s[i+1:i+2]+s[i:i+1]+s[i+2:])
			}
		}
	}
}

// Each kind's text with each other kind's word: only where the forms are one is it a text, and then of that kind.
func TestParseOfOtherKindsWords(t *testing.T) {
	for _, r := range rules {
		for _, other := range rules {
			s, _ := otherPrint(sample(r.kind))
			text := strings.Replace(s, ":"+r.word+":", ":"+other.word+":", 1)
			want := sample(r.kind)
			want.Kind = other.kind
			if r.form != other.form {
				refuses(t, text)
				continue
			}
			c, err := caps.Parse(text)
			isCap(t, "Parse of "+text, c, err, want, api.OK)
		}
	}
}

func TestParseOfWordsThatThereAreNot(t *testing.T) {
	for _, r := range rules {
		s, _ := otherPrint(sample(r.kind))
		for _, word := range []string{
			"", " ", "0", "1", "4", "au", "files", "fil", "literal", "lit-read", "lit-verify", "file-read", "file-write",
			"slot-write", "dir-write", "slot-", "-read", "slotread", "slot_read", "slot-read-verify", "SLOT", "Dir", "dir ", " dir", "directory",
		} {
			refuses(t, strings.Replace(s, ":"+r.word+":", ":"+word+":", 1))
			refuses(t, word)
			refuses(t, "au:"+word)
		}
		refuses(t, strings.Replace(s, "au:", "", 1))
		for _, head := range []string{"", "AU", "a", "u", "aau", "aumbry", " au", "au ", "ua"} {
			refuses(t, head+s[2:])
		}
	}
}

// Each part left out, given twice, empty, or with another one behind it.
func TestParseOfMoreAndFewerParts(t *testing.T) {
	for _, s := range texts() {
		parts := strings.Split(s, ":")
		for i := range parts {
			with := func(l ...string) string {
				all := append([]string{}, parts[:i]...)
				return strings.Join(append(append(all, l...), parts[i+1:]...), ":")
			}
			refuses(t, with())
			refuses(t, with(parts[i], parts[i]))
			refuses(t, with("", parts[i]))
			refuses(t, with(parts[i], ""))
			refuses(t, with(parts[i], "0"))
			refuses(t, with(parts[i], "aa"))
			parses(t, with(""))
		}
	}
}

// A file's numbers in every form but the one.
func TestParseOfNumbers(t *testing.T) {
	right := []string{"3", "10", "777"}
	for _, word := range []string{"file", "file-verify"} {
		text := func(numbers ...string) string {
			return "au:" + word + ":" + keyText + ":" + fpText + ":" + strings.Join(numbers, ":")
		}
		c, err := caps.Parse(text(right...))
		isCap(t, text(right...), c, err, counted(kindOf(word), 3, 10, 777), api.OK)
		for i := range right {
			for _, form := range []string{
				"0%s", "00%s", "000000000000000000000%s", "+%s", "-%s", " %s", "%s ", "\t%s", "%s\n", "%s\x00", "0x%s", "0b%s", "0o%s",
				"%s.0", "%s.", "%s_0", "_%s", "%s_", "%se0", "'%s'", "%s,", "(%s)", "%s-", "%s+", "%s00", "%s0000000000000000000000",
			} {
				l := append([]string{}, right...)
				l[i] = fmt.Sprintf(form, right[i])
				refuses(t, text(l...))
			}
			for _, other := range []string{
				"", "-1", "-3", "17", "1025", "256", "65539", "1048576", "2147483651", "4294967299", "9223372036854775807", "9223372036854775808",
				"-9223372036854775808", "18446744073709551616", "18446744073709551619", "18446744073709551626", "18446744073709552393", "a", "x", "three", "III", "٣", "３", "1/1", "0x3", "1e1", "inf", "nan", "--1", "+-1",
			} {
				l := append([]string{}, right...)
				l[i] = other
				want, wantErr := api.Cap{}, api.ErrForm
				if i == 2 && (other == "17" || other == "256") {
					want, wantErr = counted(kindOf(word), 3, 10, 17), api.OK
					if other == "256" {
						want.Size = 256
					}
				}
				c, err := caps.Parse(text(l...))
				isCap(t, "Parse of "+text(l...), c, err, want, wantErr)
			}
		}
		refuses(t, text("3"))
		refuses(t, text("3", "10"))
		refuses(t, text("3", "10", "777", "1"))
		refuses(t, text("3", "10", "777", ""))
		refuses(t, text("3,10,777"))
		refuses(t, text("3 10 777"))
	}
}

// Texts of the form of a capability that is not Valid: numbers about what they may be, and too many bytes.
func TestParseOfWhatIsNotValid(t *testing.T) {
	for _, word := range []string{"file", "file-verify"} {
		for k := range 20 {
			for n := range 20 {
				for _, size := range []int{0, 1, 1024, 1025} {
					s := fmt.Sprintf("au:%s:%s:%s:%d:%d:%d", word, keyText, fpText, k, n, size)
					want, wantErr := counted(kindOf(word), k, n, size), api.OK
					if k < 1 || k > n || n > 16 || size < 1 || size > 1024 {
						want, wantErr = api.Cap{}, api.ErrForm
					}
					c, err := caps.Parse(s)
					isCap(t, "Parse of "+s, c, err, want, wantErr)
				}
			}
		}
	}
	for length := range 300 {
		s := "au:lit:" + alphabet().EncodeToString(bytesOf(length))
		want, wantErr := api.Cap{Kind: api.Literal, Lit: bytesOf(length)}, api.OK
		if length > 64 {
			want, wantErr = api.Cap{}, api.ErrForm
		}
		c, err := caps.Parse(s)
		isCap(t, "Parse of "+s, c, err, want, wantErr)
	}
	for _, word := range []string{"slot", "slot-read", "slot-verify", "dir", "dir-read", "dir-verify"} {
		refuses(t, "au:"+word+":"+keyText+":"+fpText+":0:0:0")
		refuses(t, "au:"+word+":"+keyText+":"+fpText+":3:10:777")
		refuses(t, "au:"+word+":"+keyText+":"+fpText+":")
		refuses(t, "au:"+word+":"+keyText+":"+fpText+":aa")
	}
	refuses(t, "au:lit::")
	refuses(t, "au:lit:me:0:0:0")
	refuses(t, "au:lit:"+keyText+":"+fpText)
}

// A key and an Fp of fewer and of more bytes, each whole in itself.
func TestParseOfLengthsOfKeys(t *testing.T) {
	for length := range 40 {
		b := alphabet().EncodeToString(bytesOf(length))
		nought := alphabet().EncodeToString(make([]byte, length))
		for _, word := range []string{"slot", "dir-read"} {
			for _, text := range []string{b, nought} {
				if length != 16 {
					refuses(t, "au:"+word+":"+text+":"+fpText)
				}
				if length != 32 {
					refuses(t, "au:"+word+":"+keyText+":"+text)
				}
				parses(t, "au:"+word+":"+text+":"+fpText)
				parses(t, "au:"+word+":"+keyText+":"+text)
			}
		}
		if length != 16 {
			refuses(t, "au:file:"+b+":"+fpText+":1:1:1")
		}
		if length != 32 {
			refuses(t, "au:file-verify:"+keyText+":"+b+":1:1:1")
		}
	}
	// The two turned about, and all in one.
	refuses(t, "au:slot:"+fpText+":"+keyText)
	refuses(t, "au:slot:"+keyText+fpText)
	refuses(t, "au:slot:"+keyText+keyText)
}

// Letters that are not whole: a last one whose missing digits are not 0, one without a byte's digit in it; filling; great letters.
func TestParseOfLetters(t *testing.T) {
	for _, s := range []string{
		"a", "aaa", "aaaaaa", "ab", "af", "a7", "aaab", "aaai", "aaap", "aaaab", "aaaaaab", "aaaaaae", "mf", "nbur", "nbsxt", "mzxxk4r", "mea", "mzuxmzltaa7",
		"ME", "Me", "mE", "m1", "m0", "m8", "m9", "me======", "nbuq====", "nbsxs===", "mzxxk4q=", "me=", "=", "m e", "me ", "\nme", "me\n", "mé", "m\xff",
	} {
		refuses(t, "au:lit:"+s)
	}
	for i := range keyText {
		refuses(t, "au:dir:"+keyText[:i]+"Q"+keyText[i+1:]+":"+fpText)
		refuses(t, "au:dir:"+keyText[:i]+"1"+keyText[i+1:]+":"+fpText)
	}
	for i := range fpText {
		refuses(t, "au:dir:"+keyText+":"+fpText[:i]+"Q"+fpText[i+1:])
		refuses(t, "au:dir:"+keyText+":"+fpText[:i]+"1"+fpText[i+1:])
	}
	refuses(t, "au:slot:"+keyText[:25]+"5:"+fpText)
	refuses(t, "au:slot:"+keyText[:25]+"6:"+fpText)
	refuses(t, "au:slot:"+keyText+":"+fpText[:51]+"r")
	refuses(t, "au:slot:"+keyText+":"+fpText[:51]+"i")
	for _, s := range texts() {
		refuses(t, strings.ToUpper(s))
		refuses(t, strings.ToUpper(s[:1])+s[1:])
	}
}

func TestParseOfShortAndLong(t *testing.T) {
	for _, s := range []string{"", ":", "::", ":::", "a", "au", "au:", "au::", "au:::", "lit", "lit:", "au:lit", "au:file", "au:file:", "au:slot:", "au:slot::", "au:file:::::", "au:slot:::0:0:0"} {
		refuses(t, s)
	}
	for _, piece := range []string{"a", ":", "au:", "au:lit:", "0", " ", "au:slot:" + keyText + ":" + fpText, "\x00"} {
		for _, times := range []int{2, 20, 1000, 20000} {
			long := strings.Repeat(piece, times)
			refuses(t, long)
			for _, s := range texts() {
				if times < 1000 {
					// A Literal, or a Size, may go on for some letters.
					parses(t, s+long)
					parses(t, long+s)
					continue
				}
				refuses(t, s+long)
				refuses(t, long+s)
			}
		}
	}
	for _, digit := range []string{"0", "1", "9"} {
		refuses(t, "au:file:"+keyText+":"+fpText+":1:1:"+strings.Repeat(digit, 100000))
		refuses(t, "au:file:"+keyText+":"+fpText+":"+strings.Repeat(digit, 100000)+":1:1")
	}
}

// Texts that stand in a list of bytes, a row each: whatever byte is ahead or behind, they are none.
func TestParseOfBytesAbout(t *testing.T) {
	for _, s := range texts() {
		for b := range 256 {
			parses(t, string([]byte{byte(b)})+s)
			parses(t, s+string([]byte{byte(b)}))
		}
	}
}

// P13.4: Same.
func TestSame(t *testing.T) {
	all := append(allValid(), allWrong()...)
	for _, c := range all {
		if !caps.Same(c, c) {
			t.Errorf("Same of %s and itself is false", show(c))
		}
		for _, change := range changes() {
			d := c
			d.Lit = append([]byte{}, c.Lit...)
			change.by(&d)
			want := change.name == "nothing"
			if caps.Same(c, d) != want || caps.Same(d, c) != want {
				t.Errorf("Same of %s with %s changed is %v, %v", show(c), change.name, caps.Same(c, d), caps.Same(d, c))
			}
		}
	}
}

type change struct {
	name string
	by   func(c *api.Cap)
}

// changes are one field each that is another one then.
func changes() []change {
	l := []change{
		{"nothing", func(c *api.Cap) {}},
		{"Kind", func(c *api.Cap) { c.Kind++ }},
		{"Kind", func(c *api.Cap) { c.Kind += 256 }},
		{"K", func(c *api.Cap) { c.K++ }},
		{"K", func(c *api.Cap) { c.K += 1 << 32 }},
		{"N", func(c *api.Cap) { c.N-- }},
		{"N", func(c *api.Cap) { c.N += 1 << 40 }},
		{"Size", func(c *api.Cap) { c.Size++ }},
		{"Size", func(c *api.Cap) { c.Size -= 65536 }},
		{"Lit's length", func(c *api.Cap) { c.Lit = append(c.Lit, 0) }},
		{"Lit's beginning", func(c *api.Cap) { c.Lit = append([]byte{1}, c.Lit...) }},
	}
	for i := range 16 {
		l = append(l, change{fmt.Sprintf("byte %d of Key", i), func(c *api.Cap) { c.Key[i] ^= 1 << (i % 8) }})
	}
	for i := range 32 {
		l = append(l, change{fmt.Sprintf("byte %d of Fp", i), func(c *api.Cap) { c.Fp[i] ^= 1 << (i % 8) }})
	}
	return l
}

// No Lit and an empty one are one; of Lits each byte counts.
func TestSameOfLits(t *testing.T) {
	for _, r := range rules {
		none, empty := sample(r.kind), sample(r.kind)
		none.Lit, empty.Lit = nil, []byte{}
		if !caps.Same(none, empty) || !caps.Same(empty, none) || !caps.Same(none, none) || !caps.Same(empty, empty) {
			t.Errorf("of kind %d no Lit and an empty one are two", r.kind)
		}
		some := sample(r.kind)
		some.Lit = []byte{0}
		if caps.Same(none, some) || caps.Same(some, empty) {
			t.Errorf("of kind %d no Lit and one of one byte are one", r.kind)
		}
	}
	for i := range 64 {
		a, b := api.Cap{Kind: api.Literal, Lit: bytesOf(64)}, api.Cap{Kind: api.Literal, Lit: bytesOf(64)}
		b.Lit[i] ^= 128
		if caps.Same(a, b) || caps.Same(b, a) {
			t.Errorf("Lits that differ in byte %d are one", i)
		}
		a.Lit, b.Lit = a.Lit[:i], b.Lit[:i]
		if !caps.Same(a, b) {
			t.Errorf("Lits of %d bytes that are alike are two", i)
		}
	}
}

// Capabilities that are all of two kinds' fields.
func TestSameOfAll(t *testing.T) {
	all := append(allValid(), sample(0), sample(10), api.Cap{})
	for _, a := range all {
		for _, b := range all {
			if got, want := caps.Same(a, b), otherSame(a, b); got != want {
				t.Errorf("Same of %s and %s = %v", show(a), show(b), got)
			}
		}
	}
}
