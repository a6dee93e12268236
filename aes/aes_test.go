package aes_test

import (
	"bytes"
	stdaes "crypto/aes"
	"crypto/cipher"
	"encoding/binary"
	"encoding/hex"
	"math"
	"testing"

	"aumbry/aes"
	"aumbry/api"
)

// maxAt is the last place that a stream is begun at.
const maxAt = 1 << 30

// mixed hands out n bytes far from any rule, others for another seed.
func mixed(n, seed int) []byte {
	b := make([]byte, n)
	for i := range b {
		b[i] = byte(i*i*31 + i*7 + i>>8 + seed*59 + 3)
	}
	return b
}

// single is one byte at its place, and noughts.
func single(place int, x byte) [16]byte {
	var b [16]byte
	b[place] = x
	return b
}

// bytesOf reads a text's digits.
func bytesOf(t *testing.T, digits string) []byte {
	t.Helper()
	b, err := hex.DecodeString(digits)
	if err != nil {
		t.Fatal("no bytes:", digits)
	}
	return b
}

// blockOf reads a block's 32 digits.
func blockOf(t *testing.T, digits string) [16]byte {
	t.Helper()
	b := bytesOf(t, digits)
	if len(b) != 16 {
		t.Fatal("no block:", digits)
	}
	return [16]byte(b)
}

// otherCipher is another maker of AES.
func otherCipher(t *testing.T, k api.Key) cipher.Block {
	t.Helper()
	c, err := stdaes.NewCipher(k[:])
	if err != nil {
		t.Fatal(err)
	}
	return c
}

// otherBlock is a block by another maker of AES.
func otherBlock(t *testing.T, k api.Key, in [16]byte) [16]byte {
	t.Helper()
	var out [16]byte
	otherCipher(t, k).Encrypt(out[:], in[:])
	return out
}

// otherStream is a stream by another maker: its counter is begun at the block in which at lies.
func otherStream(t *testing.T, k api.Key, at int, b []byte) []byte {
	t.Helper()
	var first [16]byte
	binary.BigEndian.PutUint64(first[8:], uint64(at/16))
	stream := cipher.NewCTR(otherCipher(t, k), first[:])
	skipped := make([]byte, at%16)
	stream.XORKeyStream(skipped, skipped)
	out := make([]byte, len(b))
	stream.XORKeyStream(out, b)
	return out
}

// within hands out a list with more memory behind its length, and that memory.
func within(s string) (list, behind []byte) {
	b := []byte(s + "????????????????????????????????????????")
	return b[:len(s)], b[len(s):]
}

// untouched says whether the list and what is behind it are as within made them.
func untouched(s string, list, behind []byte) bool {
	return string(list) == s && string(behind) == "????????????????????????????????????????"
}

// spoil writes over a list and over what its memory has behind it.
func spoil(b []byte) {
	b = b[:cap(b)]
	for i := range b {
		b[i] = '#'
	}
}

// someKeys are keys: of one byte, of one bit, rising ones, mixed ones.
func someKeys() []api.Key {
	keys := []api.Key{{}, {0: 1}, {15: 1}, {0: 0x80}, {15: 0x80}}
	keys = append(keys, api.Key(bytes.Repeat([]byte{0xff}, 16)))
	var rising api.Key
	for i := range rising {
		rising[i] = byte(i)
	}
	keys = append(keys, rising)
	for seed := range 6 {
		keys = append(keys, api.Key(mixed(16, seed)))
	}
	return keys
}

// P3.1: Block

// The standard's own keys and blocks (FIPS 197, B and C.1; SP 800-38A, F.1.1), and the chapter's.
func TestBlockOfKnown(t *testing.T) {
	for _, r := range []struct{ name, key, in, want string }{
		{"noughts", "00000000000000000000000000000000", "00000000000000000000000000000000", "66e94bd4ef8a2c3b884cfa59ca342b2e"},
		{"B", "2b7e151628aed2a6abf7158809cf4f3c", "3243f6a8885a308d313198a2e0370734", "3925841d02dc09fbdc118597196a0b32"},
		{"C.1", "000102030405060708090a0b0c0d0e0f", "00112233445566778899aabbccddeeff", "69c4e0d86a7b0430d8cdb78070b4c55a"},
		{"F.1.1, 1", "2b7e151628aed2a6abf7158809cf4f3c", "6bc1bee22e409f96e93d7e117393172a", "3ad77bb40d7a3660a89ecaf32466ef97"},
		{"F.1.1, 2", "2b7e151628aed2a6abf7158809cf4f3c", "ae2d8a571e03ac9c9eb76fac45af8e51", "f5d3d58503b9699de785895a96fdbaaf"},
		{"F.1.1, 3", "2b7e151628aed2a6abf7158809cf4f3c", "30c81c46a35ce411e5fbc1191a0a52ef", "43b1cd7f598ece23881b00e3ed030688"},
		{"F.1.1, 4", "2b7e151628aed2a6abf7158809cf4f3c", "f69f2445df4f9b17ad2b417be66c3710", "7b0c785e27e8ad3f8223207104725dd4"},
	} {
		key, in := blockOf(t, r.key), blockOf(t, r.in)
		if got := aes.Block(key, in); got != blockOf(t, r.want) {
			t.Errorf("%s: Block = %x, want %s", r.name, got, r.want)
		}
	}
}

// Each byte at each place, in the key and in the block.
func TestBlockOfEachByte(t *testing.T) {
	for place := range 16 {
		for x := range 256 {
			one := single(place, byte(x))
			full := [16]byte(mixed(16, place))
			full[place] = byte(x)
			for _, r := range []struct {
				k  api.Key
				in [16]byte
			}{
				{api.Key{}, one},
				{one, [16]byte{}},
				{full, full},
				{api.Key(mixed(16, x)), full},
				{full, [16]byte(mixed(16, x))},
			} {
				if got, want := aes.Block(r.k, r.in), otherBlock(t, r.k, r.in); got != want {
					t.Fatalf("Block(%x, %x) = %x, want %x", r.k, r.in, got, want)
				}
			}
		}
	}
}

// One block goes on to the next: blocks and keys far from any rule.
func TestBlockOfBlocks(t *testing.T) {
	for _, k := range someKeys() {
		var in [16]byte
		for i := range 200 {
			out := aes.Block(k, in)
			if want := otherBlock(t, k, in); out != want {
				t.Fatalf("%d: Block(%x, %x) = %x, want %x", i, k, in, out, want)
			}
			k, in = out, [16]byte(k)
		}
	}
}

// What is asked between hangs on nothing that was asked before.
func TestBlockAgain(t *testing.T) {
	keys := someKeys()
	var first [][16]byte
	for i, k := range keys {
		first = append(first, aes.Block(k, keys[len(keys)-1-i]))
	}
	for i := len(keys) - 1; i >= 0; i-- {
		if got := aes.Block(keys[i], keys[len(keys)-1-i]); got != first[i] {
			t.Errorf("Block(%x) = %x, then %x", keys[i], first[i], got)
		}
	}
}

// P3.1: Expand

// The standard's own round keys (FIPS 197, A.1 and C.1), and those of noughts.
func TestExpandOfKnown(t *testing.T) {
	for _, r := range []struct {
		name string
		keys [11]string
	}{
		{"A.1", [11]string{
			"2b7e151628aed2a6abf7158809cf4f3c",
			"a0fafe1788542cb123a339392a6c7605",
			"f2c295f27a96b9435935807a7359f67f",
			"3d80477d4716fe3e1e237e446d7a883b",
			"ef44a541a8525b7fb671253bdb0bad00",
			"d4d1c6f87c839d87caf2b8bc11f915bc",
			"6d88a37a110b3efddbf98641ca0093fd",
			"4e54f70e5f5fc9f384a64fb24ea6dc4f",
			"ead27321b58dbad2312bf5607f8d292f",
			"ac7766f319fadc2128d12941575c006e",
			"d014f9a8c9ee2589e13f0cc8b6630ca6",
		}},
		{"C.1", [11]string{
			"000102030405060708090a0b0c0d0e0f",
			"d6aa74fdd2af72fadaa678f1d6ab76fe",
			"b692cf0b643dbdf1be9bc5006830b3fe",
			"b6ff744ed2c2c9bf6c590cbf0469bf41",
			"47f7f7bc95353e03f96c32bcfd058dfd",
			"3caaa3e8a99f9deb50f3af57adf622aa",
			"5e390f7df7a69296a7553dc10aa31f6b",
			"14f9701ae35fe28c440adf4d4ea9c026",
			"47438735a41c65b9e016baf4aebf7ad2",
			"549932d1f08557681093ed9cbe2c974e",
			"13111d7fe3944a17f307a78b4d2b30c5",
		}},
		{"noughts", [11]string{
			"00000000000000000000000000000000",
			"62636363626363636263636362636363",
			"9b9898c9f9fbfbaa9b9898c9f9fbfbaa",
			"90973450696ccffaf2f457330b0fac99",
			"ee06da7b876a1581759e42b27e91ee2b",
			"7f2e2b88f8443e098dda7cbbf34b9290",
			"ec614b851425758c99ff09376ab49ba7",
			"217517873550620bacaf6b3cc61bf09b",
			"0ef903333ba9613897060a04511dfa9f",
			"b1d4d8e28a7db9da1d7bb3de4c664941",
			"b4ef5bcb3e92e21123e951cf6f8f188e",
		}},
	} {
		for i, key := range aes.Expand(blockOf(t, r.keys[0])) {
			if want := blockOf(t, r.keys[i]); key != want {
				t.Errorf("%s: round key %d = %x, want %x", r.name, i, key, want)
			}
		}
	}
}

// otherTable tells what stands for each byte: of FIPS 197's own table.
func otherTable(t *testing.T) [256]byte {
	t.Helper()
	return [256]byte(bytesOf(t, ""+
		"637c777bf26b6fc53001672bfed7ab76"+
		"ca82c97dfa5947f0add4a2af9ca472c0"+
		"b7fd9326363ff7cc34a5e5f171d83115"+
		"04c723c31896059a071280e2eb27b275"+
		"09832c1a1b6e5aa0523bd6b329e32f84"+
		"53d100ed20fcb15b6acbbe394a4c58cf"+
		"d0efaafb434d338545f9027f503c9fa8"+
		"51a3408f929d38f5bcb6da2110fff3d2"+
		"cd0c13ec5f974417c4a77e3d645d1973"+
		"60814fdc222a908846eeb814de5e0bdb"+
		"e0323a0a4906245cc2d3ac629195e479"+
		"e7c8376d8dd54ea96c56f4ea657aae08"+
		"ba78252e1ca6b4c6e8dd741f4bbd8b8a"+
		"703eb5664803f60e613557b986c11d9e"+
		"e1f8981169d98e949b1e87e9ce5528df"+
		"8ca1890dbfe6426841992d0fb054bb16"))
}

// otherExpand is another maker of round keys: of words of 32 bits, as FIPS 197 writes it (figure 11).
func otherExpand(k api.Key, table [256]byte) [11][16]byte {
	marks := [11]uint32{0, 0x01, 0x02, 0x04, 0x08, 0x10, 0x20, 0x40, 0x80, 0x1b, 0x36}
	var words [44]uint32
	var keys [11][16]byte
	for i := range words {
		if i < 4 {
			words[i] = binary.BigEndian.Uint32(k[4*i:])
		} else {
			last := words[i-1]
			if i%4 == 0 {
				last = last<<8 | last>>24
				last = uint32(table[last>>24])<<24 | uint32(table[last>>16&255])<<16 | uint32(table[last>>8&255])<<8 | uint32(table[last&255])
				last ^= marks[i/4] << 24
			}
			words[i] = words[i-4] ^ last
		}
		binary.BigEndian.PutUint32(keys[i/4][4*(i%4):], words[i])
	}
	return keys
}

// Each byte at each place of the key, and keys far from any rule.
func TestExpandOfEachByte(t *testing.T) {
	table := otherTable(t)
	for place := range 16 {
		for x := range 256 {
			k := api.Key(mixed(16, x+place))
			k[place] = byte(x)
			for _, k := range []api.Key{single(place, byte(x)), k} {
				if got, want := aes.Expand(k), otherExpand(k, table); got != want {
					t.Fatalf("Expand(%x) = %x, want %x", k, got, want)
				}
			}
		}
	}
	for _, k := range someKeys() {
		for range 50 {
			got := aes.Expand(k)
			if want := otherExpand(k, table); got != want {
				t.Fatalf("Expand(%x) = %x, want %x", k, got, want)
			}
			k = got[10]
		}
	}
}

// The first round key is the key, and a caller's writing in what was handed out stays with him.
func TestExpandAgain(t *testing.T) {
	for _, k := range someKeys() {
		first := aes.Expand(k)
		kept := first
		for i := range first {
			spoil(first[i][:])
		}
		if again := aes.Expand(k); again != kept || again[0] != k {
			t.Errorf("Expand(%x) = %x, then %x", k, kept, again)
		}
	}
}

// P3.1: Stream

// The stream is Block of 0, 1, 2, ..: as FIPS 197's blocks stand behind one another.
func TestStreamOfNoughts(t *testing.T) {
	for _, k := range someKeys() {
		var want []byte
		for n := range 600 {
			part := otherBlock(t, k, [16]byte{14: byte(n >> 8), 15: byte(n)})
			want = append(want, part[:]...)
		}
		if got := aes.Stream(k, 0, make([]byte, len(want))); !bytes.Equal(got, want) {
			t.Errorf("key %x: Stream of noughts is not Block of 0, 1, 2, ..", k)
		}
	}
	first := aes.Stream(api.Key{}, 0, make([]byte, 16))
	if want := bytesOf(t, "66e94bd4ef8a2c3b884cfa59ca342b2e"); !bytes.Equal(first, want) {
		t.Errorf("key 0: the first block = %x, want %x", first, want)
	}
}

// From each place in a block, of no bytes, of one, and of many across blocks' ends.
func TestStreamFromEachPlace(t *testing.T) {
	k := api.Key(mixed(16, 5))
	all := mixed(100, 1)
	for at := range 70 {
		for n := range len(all) + 1 {
			got, want := aes.Stream(k, at, all[:n]), otherStream(t, k, at, all[:n])
			if !bytes.Equal(got, want) {
				t.Fatalf("Stream at %d of %d bytes = %x, want %x", at, n, got, want)
			}
		}
	}
}

// Places at which the number of a block takes one byte more, and those about the last.
func TestStreamAtFarPlaces(t *testing.T) {
	k := api.Key(mixed(16, 6))
	all := mixed(100, 2)
	for _, edge := range []int{1 << 12, 1 << 20, 1 << 28, 1<<29 + 1<<21 + 1<<13, maxAt} {
		for at := edge - 40; at <= min(edge+40, maxAt); at++ {
			for _, n := range []int{0, 1, 2, 15, 16, 17, 31, 32, 33, 100} {
				got, want := aes.Stream(k, at, all[:n]), otherStream(t, k, at, all[:n])
				if !bytes.Equal(got, want) {
					t.Fatalf("Stream at %d of %d bytes = %x, want %x", at, n, got, want)
				}
			}
		}
	}
}

// A place below 0 is 0, one above 2 to the 30 is that.
func TestStreamAtPlacesThatAreNone(t *testing.T) {
	all := mixed(100, 3)
	for _, k := range someKeys() {
		for _, r := range []struct{ at, is int }{
			{-1, 0}, {-2, 0}, {-15, 0}, {-16, 0}, {-17, 0}, {-maxAt, 0}, {math.MinInt32, 0}, {math.MinInt + 1, 0}, {math.MinInt, 0},
			{0, 0}, {1, 1},
			{maxAt - 1, maxAt - 1}, {maxAt, maxAt},
			{maxAt + 1, maxAt}, {maxAt + 15, maxAt}, {maxAt + 16, maxAt}, {maxAt + 17, maxAt}, {2 * maxAt, maxAt}, {math.MaxInt - 1, maxAt}, {math.MaxInt, maxAt},
		} {
			for _, n := range []int{0, 1, 16, 17, 100} {
				got, want := aes.Stream(k, r.at, all[:n]), otherStream(t, k, r.is, all[:n])
				if !bytes.Equal(got, want) {
					t.Errorf("Stream at %d of %d bytes = %x, want %x", r.at, n, got, want)
				}
			}
		}
	}
}

func TestStreamOfNothing(t *testing.T) {
	for _, at := range []int{math.MinInt, -1, 0, 1, 15, 16, 17, maxAt, math.MaxInt} {
		if got := aes.Stream(api.Key{1}, at, nil); len(got) != 0 {
			t.Errorf("Stream at %d of nil = %x", at, got)
		}
		if got := aes.Stream(api.Key{1}, at, []byte{}); len(got) != 0 {
			t.Errorf("Stream at %d of no bytes = %x", at, got)
		}
	}
}

func TestStreamOfManyBytes(t *testing.T) {
	for _, n := range []int{api.MaxData - 1, api.MaxData, api.MaxData + 1, api.MaxBytes, 1<<20 + 7} {
		b := mixed(n, n)
		for _, at := range []int{0, 7, maxAt} {
			k := api.Key(mixed(16, at+n))
			if got := aes.Stream(k, at, b); !bytes.Equal(got, otherStream(t, k, at, b)) {
				t.Errorf("Stream at %d of %d bytes is another maker's no more", at, n)
			}
		}
	}
}

// Each byte, at each place of a block.
func TestStreamOfEachByte(t *testing.T) {
	k := api.Key(mixed(16, 8))
	for x := range 256 {
		b := bytes.Repeat([]byte{byte(x)}, 33)
		if got, want := aes.Stream(k, 0, b), otherStream(t, k, 0, b); !bytes.Equal(got, want) {
			t.Errorf("Stream of bytes %d = %x, want %x", x, got, want)
		}
	}
}

func TestStreamMemory(t *testing.T) {
	k := api.Key(mixed(16, 9))
	for _, n := range []int{0, 1, 15, 16, 17, 31, 32, 33, 100} {
		for _, at := range []int{-1, 0, 5, 16, maxAt, maxAt + 1} {
			text := string(mixed(n, at))
			list, behind := within(text)
			want := otherStream(t, k, min(max(at, 0), maxAt), list)
			got := aes.Stream(k, at, list)
			if !bytes.Equal(got, want) || !untouched(text, list, behind) {
				t.Errorf("Stream at %d of %d bytes = %x, or what was handed in is changed", at, n, got)
			}
			spoil(got)
			if !untouched(text, list, behind) {
				t.Errorf("Stream at %d of %d bytes hands out what was handed in", at, n)
			}
			second := aes.Stream(k, at, list)
			spoil(list)
			if !bytes.Equal(second, want) {
				t.Errorf("Stream at %d of %d bytes hangs on memory that is not its own", at, n)
			}
			third := aes.Stream(k, at, []byte(text))
			spoil(second)
			if !bytes.Equal(third, want) {
				t.Errorf("Stream at %d of %d bytes hands out memory that it has handed out before", at, n)
			}
		}
	}
}

// P3.2

// What is streamed twice, at one place with one key, is itself.
func TestStreamTwice(t *testing.T) {
	for _, k := range someKeys() {
		for _, at := range []int{math.MinInt, -5, -1, 0, 1, 7, 15, 16, 17, 12345, maxAt - 1, maxAt, maxAt + 1, math.MaxInt} {
			for _, n := range []int{0, 1, 2, 15, 16, 17, 64, 99, api.MaxData} {
				b := mixed(n, at)
				once := aes.Stream(k, at, b)
				if n >= 15 && bytes.Equal(once, b) {
					t.Errorf("Stream at %d of %d bytes leaves them as they are", at, n)
				}
				if twice := aes.Stream(k, at, once); !bytes.Equal(twice, b) {
					t.Errorf("streamed twice at %d, %d bytes are %x, want %x", at, n, twice, b)
				}
			}
		}
	}
}

// Two pieces, cut anywhere, one of them empty too; the last ends at the greatest place that a stream is begun at.
func TestStreamInTwoPieces(t *testing.T) {
	k := api.Key(mixed(16, 11))
	all := mixed(83, 4)
	for _, at := range []int{0, 1, 8, 15, 16, 17, 255, 256, 1<<20 - 3, maxAt - len(all)} {
		want := aes.Stream(k, at, all)
		for cut := range len(all) + 1 {
			got := append(aes.Stream(k, at, all[:cut]), aes.Stream(k, at+cut, all[cut:])...)
			if !bytes.Equal(got, want) {
				t.Fatalf("at %d, cut at %d: %x, want %x", at, cut, got, want)
			}
		}
	}
}

// Pieces of one length each, put in their places from the last to the first.
func TestStreamInManyPieces(t *testing.T) {
	all := mixed(200, 5)
	for _, k := range someKeys() {
		for _, at := range []int{0, 3, 16, 21, maxAt - len(all)} {
			want := aes.Stream(k, at, all)
			for length := 1; length <= 70; length++ {
				got := make([]byte, len(all))
				for start := len(all) / length * length; start >= 0; start -= length {
					end := min(start+length, len(all))
					copy(got[start:], aes.Stream(k, at+start, all[start:end]))
				}
				if !bytes.Equal(got, want) {
					t.Fatalf("at %d, pieces of %d: %x, want %x", at, length, got, want)
				}
			}
		}
	}
}
