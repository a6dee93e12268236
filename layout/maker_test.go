package layout_test

import (
	"crypto/sha256"
	"encoding/hex"
	"fmt"
	"math"
	"strconv"
	"strings"
	"testing"

	"aumbry/api"
	"aumbry/layout"
	"aumbry/mss"
)

// Another maker of the same answers: bytes as strings, rows by their form alone, the library's SHA-256, trees from above.

// num tells n as so many bytes by its digits; those in front that do not fit are cut off, and below 0 it is 0.
func num(n, width int) string {
	digits := fmt.Sprintf("%016x", max(n, 0))
	b, err := hex.DecodeString(digits[16-2*width:])
	if err != nil {
		panic(err)
	}
	return string(b)
}

// value tells the number that bytes are.
func value(s string) int {
	n := 0
	for _, b := range []byte(s) {
		n = n*256 + int(b)
	}
	return n
}

// rows tells strings as rows.
func rows(l ...string) string {
	var all strings.Builder
	for _, row := range l {
		fmt.Fprintf(&all, "%d:%s,", len(row), row)
	}
	return all.String()
}

// cut tells the rows that s is; false: it is not rows alone.
func cut(s string) ([]string, bool) {
	var l []string
	for s != "" {
		digits, rest, _ := strings.Cut(s, ":")
		n, err := strconv.Atoi(digits)
		if err != nil || strconv.Itoa(n) != digits || n < 0 || len(rest) < n+1 || rest[n] != ',' {
			return nil, false
		}
		l = append(l, rest[:n])
		s = rest[n+1:]
	}
	return l, true
}

// shaped tells the rows that s is, if they are of just these lengths.
func shaped(s string, lengths ...int) ([]string, bool) {
	l, ok := cut(s)
	if !ok || len(l) != len(lengths) {
		return nil, false
	}
	for i, row := range l {
		if len(row) != lengths[i] {
			return nil, false
		}
	}
	return l, true
}

func tagged(tag string, l ...string) api.Hash {
	return sha256.Sum256([]byte(rows(append([]string{tag}, l...)...)))
}

func raw(h api.Hash) string { return string(h[:]) }

func rawAll(l []api.Hash) string {
	s := ""
	for _, h := range l {
		s += raw(h)
	}
	return s
}

// hashes tells the hashes that s is; false: they are not whole.
func hashes(s string) ([]api.Hash, bool) {
	var l []api.Hash
	for ; len(s) >= 32; s = s[32:] {
		l = append(l, api.Hash([]byte(s[:32])))
	}
	return l, s == ""
}

func otherPack(u api.Ueb) string {
	return rows(num(u.K, 1), num(u.N, 1), num(u.Size, 4), num(u.Seg, 4), raw(u.Crypt), raw(u.Shares))
}

func otherUnpack(b string) (api.Ueb, bool) {
	l, ok := shaped(b, 1, 1, 4, 4, 32, 32)
	if !ok {
		return api.Ueb{}, false
	}
	u := api.Ueb{K: value(l[0]), N: value(l[1]), Size: value(l[2]), Seg: value(l[3]), Crypt: api.Hash([]byte(l[4])), Shares: api.Hash([]byte(l[5]))}
	if u.N > 16 || u.K > u.N || u.K == 0 || u.Size == 0 || u.Size > 1024 || u.Seg != 64 {
		return api.Ueb{}, false
	}
	return u, true
}

func otherPackShare(s api.Share) string {
	l := []string{num(s.Num, 1), string(s.Ueb), rawAll(s.Proof), num(len(s.Blocks), 1)}
	for _, block := range s.Blocks {
		l = append(l, string(block))
	}
	return rows(l...)
}

func otherUnpackShare(b string) (api.Share, bool) {
	l, ok := cut(b)
	if len(b) > 16384 || !ok || len(l) < 4 || len(l) > 20 {
		return api.Share{}, false
	}
	proof, ok := hashes(l[2])
	if !ok || len(l[0]) != 1 || l[0][0] > 15 || l[3] != string([]byte{byte(len(l) - 4)}) {
		return api.Share{}, false
	}
	s := api.Share{Num: value(l[0]), Ueb: []byte(l[1]), Proof: proof}
	for _, block := range l[4:] {
		s.Blocks = append(s.Blocks, []byte(block))
	}
	return s, true
}

func otherPackVersion(v api.Version) string {
	return rows(num(v.Seq, 4), num(v.K, 1), num(v.N, 1), num(v.Size, 4), string(v.Salt[:]), raw(v.Root))
}

func otherUnpackVersion(b string) (api.Version, bool) {
	l, ok := shaped(b, 4, 1, 1, 4, 16, 32)
	if !ok {
		return api.Version{}, false
	}
	v := api.Version{Seq: value(l[0]), K: value(l[1]), N: value(l[2]), Size: value(l[3]), Salt: api.Key([]byte(l[4])), Root: api.Hash([]byte(l[5]))}
	if v.Seq == 0 || v.Seq > 1<<20 || v.N > 16 || v.K > v.N || v.K == 0 || v.Size > 1024 {
		return api.Version{}, false
	}
	return v, true
}

// packedSig tells a signature's bytes.
func packedSig(s api.Sig) string {
	return num(s.Height, 1) + num(s.Leaf, 2) + rawAll(s.Values) + rawAll(s.Proof)
}

func otherPackPiece(p api.Piece) string {
	return rows(num(p.Num, 1), otherPackVersion(p.Version), packedSig(p.Sig), rawAll(p.Proof), string(p.Block))
}

func otherUnpackPiece(b string) (api.Piece, bool) {
	l, ok := cut(b)
	if len(b) > 16384 || !ok || len(l) != 5 || len(l[0]) != 1 || l[0][0] > 15 || len(l[2]) < 3 {
		return api.Piece{}, false
	}
	version, ok := otherUnpackVersion(l[1])
	height := value(l[2][:1])
	if !ok || height > 4 || len(l[2]) != 3+32*67+32*height {
		return api.Piece{}, false
	}
	all, _ := hashes(l[2][3:])
	proof, ok := hashes(l[3])
	if !ok {
		return api.Piece{}, false
	}
	sig := api.Sig{Height: height, Leaf: value(l[2][1:3]), Values: all[:67], Proof: all[67:]}
	return api.Piece{Num: value(l[0]), Version: version, Sig: sig, Proof: proof, Block: []byte(l[4])}, true
}

// leavesOf tells the leaves of strings, with pads behind them.
func leavesOf(l [][]byte) []api.Hash {
	var all []api.Hash
	for _, b := range l {
		all = append(all, tagged("leaf", string(b)))
	}
	return filled(all)
}

// filled tells leaves with pads behind them, up to a power of 2.
func filled(l []api.Hash) []api.Hash {
	l = append([]api.Hash{}, l...)
	for len(l) == 0 || len(l)&(len(l)-1) != 0 {
		l = append(l, tagged("pad"))
	}
	return l
}

// above tells what stands over filled leaves.
func above(l []api.Hash) api.Hash {
	if len(l) == 1 {
		return l[0]
	}
	half := len(l) / 2
	return tagged("node", raw(above(l[:half])), raw(above(l[half:])))
}

// beside tells what stands beside the way up from leaf i of filled ones.
func beside(l []api.Hash, i int) []api.Hash {
	if len(l) == 1 {
		return nil
	}
	half := len(l) / 2
	if i < half {
		return append(beside(l[:half], i), above(l[half:]))
	}
	return append(beside(l[half:], i-half), above(l[:half]))
}

func otherShareLeaf(s api.Share) api.Hash { return above(leavesOf(s.Blocks)) }

// climbs says whether leaf i of n leads to root by a proof.
func climbs(root api.Hash, n, i int, leaf api.Hash, proof []api.Hash) bool {
	if i < 0 || i >= n || n > 256 {
		return false
	}
	width := 1
	for _, h := range proof {
		if i/width%2 == 0 {
			leaf = tagged("node", raw(leaf), raw(h))
		} else {
			leaf = tagged("node", raw(h), raw(leaf))
		}
		width *= 2
	}
	return width >= n && width < 2*n && leaf == root
}

// lengthOf tells how long a share is of so many bytes: k of them have room for all.
func lengthOf(size, k int) int {
	length := max(size, 0) / k
	if size > 0 && size%k > 0 {
		length++
	}
	return length
}

// lengths tells how long the blocks are of a file's share.
func lengths(k, size int) []int {
	var l []int
	for ; size > 64; size -= 64 {
		l = append(l, lengthOf(64, k))
	}
	return append(l, lengthOf(size, k))
}

func otherRightShare(c api.Cap, s api.Share) (api.Ueb, bool) {
	u, ok := otherUnpack(string(s.Ueb))
	if c.Kind != 1 && c.Kind != 2 || len(c.Lit) > 0 || !ok || c.Fp != tagged("ueb", string(s.Ueb)) {
		return api.Ueb{}, false
	}
	if c.K != u.K || c.N != u.N || c.Size != u.Size || len(s.Blocks) != len(lengths(u.K, u.Size)) {
		return api.Ueb{}, false
	}
	for i, length := range lengths(u.K, u.Size) {
		if len(s.Blocks[i]) != length {
			return api.Ueb{}, false
		}
	}
	if !climbs(u.Shares, u.N, s.Num, otherShareLeaf(s), s.Proof) {
		return api.Ueb{}, false
	}
	return u, true
}

func otherRightPiece(fp api.Hash, p api.Piece) bool {
	v := p.Version
	if v.K < 1 || len(p.Block) != lengthOf(v.Size, v.K) {
		return false
	}
	return climbs(v.Root, v.N, p.Num, tagged("leaf", string(p.Block)), p.Proof) && mss.Verify(fp, []byte(otherPackVersion(v)), p.Sig)
}

// What is handed out is shown, and held, as texts: none and an empty list are one.

func showUeb(u api.Ueb) string {
	return fmt.Sprintf("{%d of %d, size %d, seg %d, %x, %x}", u.K, u.N, u.Size, u.Seg, u.Crypt, u.Shares)
}

func showShare(s api.Share) string {
	return fmt.Sprintf("{num %d, ueb %x, proof %x, %d blocks %x}", s.Num, s.Ueb, s.Proof, len(s.Blocks), s.Blocks)
}

func showVersion(v api.Version) string {
	return fmt.Sprintf("{seq %d, %d of %d, size %d, %x, %x}", v.Seq, v.K, v.N, v.Size, v.Salt, v.Root)
}

func showPiece(p api.Piece) string {
	return fmt.Sprintf("{num %d, version %s, sig %d %d %x %x, proof %x, block %x}", p.Num, showVersion(p.Version), p.Sig.Height, p.Sig.Leaf, p.Sig.Values, p.Sig.Proof, p.Proof, p.Block)
}

// is holds that two texts are one.
func is(t *testing.T, what, got, want string) {
	t.Helper()
	if got != want {
		t.Errorf("%s = %.3000q; it is %.3000q", what, got, want)
	}
}

// said tells an answer with its bool as a text.
func said(shown string, ok bool) string { return fmt.Sprint(shown, ok) }

// A form is one of the four things that are packed: its calls, and the other maker's, on texts.
type form struct {
	name   string
	unpack func(b []byte) string // shown, with the bool
	other  func(b string) string
	again  func(b []byte) string // the pack of what is unpacked
	none   string                // what is told beside false
}

func forms() []form {
	return []form{
		{
			"Unpack",
			func(b []byte) string { u, ok := layout.Unpack(b); return said(showUeb(u), ok) },
			func(b string) string { u, ok := otherUnpack(b); return said(showUeb(u), ok) },
			func(b []byte) string { u, _ := layout.Unpack(b); return string(layout.Pack(u)) },
			said(showUeb(api.Ueb{}), false),
		},
		{
			"UnpackShare",
			func(b []byte) string { s, ok := layout.UnpackShare(b); return said(showShare(s), ok) },
			func(b string) string { s, ok := otherUnpackShare(b); return said(showShare(s), ok) },
			func(b []byte) string { s, _ := layout.UnpackShare(b); return string(layout.PackShare(s)) },
			said(showShare(api.Share{}), false),
		},
		{
			"UnpackVersion",
			func(b []byte) string { v, ok := layout.UnpackVersion(b); return said(showVersion(v), ok) },
			func(b string) string { v, ok := otherUnpackVersion(b); return said(showVersion(v), ok) },
			func(b []byte) string { v, _ := layout.UnpackVersion(b); return string(layout.PackVersion(v)) },
			said(showVersion(api.Version{}), false),
		},
		{
			"UnpackPiece",
			func(b []byte) string { p, ok := layout.UnpackPiece(b); return said(showPiece(p), ok) },
			func(b string) string { p, ok := otherUnpackPiece(b); return said(showPiece(p), ok) },
			func(b []byte) string { p, _ := layout.UnpackPiece(b); return string(layout.PackPiece(p)) },
			said(showPiece(api.Piece{}), false),
		},
	}
}

// The four forms by their places in forms.
const (
	uebs = iota
	shares
	versions
	pieces
)

// refuse holds that bytes are none.
func (f form) refuse(t *testing.T, why, b string) {
	t.Helper()
	if f.other(b) != f.none {
		t.Fatalf("%s of %s: the other maker takes %.300q", f.name, why, b)
	}
	is(t, f.name+" of "+why, f.unpack([]byte(b)), f.none)
}

// take holds that bytes are taken, and come out again.
func (f form) take(t *testing.T, why, b string) {
	t.Helper()
	if f.other(b) == f.none {
		t.Fatalf("%s of %s: the other maker refuses %.300q", f.name, why, b)
	}
	is(t, f.name+" of "+why, f.unpack([]byte(b)), f.other(b))
	is(t, "the pack of "+f.name+" of "+why, f.again([]byte(b)), b)
}

// hold holds what is told of bytes, whatever that is.
func (f form) hold(t *testing.T, why, b string) {
	t.Helper()
	is(t, f.name+" of "+why, f.unpack([]byte(b)), f.other(b))
}

// refuseNear holds that all bytes near those of whole rows are none.
func (f form) refuseNear(t *testing.T, what, b string) {
	t.Helper()
	for n := range len(b) {
		f.refuse(t, fmt.Sprintf("%s, the first %d bytes", what, n), b[:n])
		f.refuse(t, fmt.Sprintf("%s, without the first %d bytes", what, n+1), b[n+1:])
		f.refuse(t, fmt.Sprintf("%s, without byte %d", what, n), b[:n]+b[n+1:])
	}
	for _, more := range []string{"\x00", ",", "0:,", "1:x,", "0", " ", b} {
		f.refuse(t, fmt.Sprintf("%s, and %.20q behind it", what, more), b+more)
		f.refuse(t, fmt.Sprintf("%s, and %.20q ahead of it", what, more), more+b)
	}
	f.rowsNear(t, what, b)
}

// rowsNear holds the same of rows that are whole.
func (f form) rowsNear(t *testing.T, what, b string) {
	t.Helper()
	l, _ := cut(b)
	for i := range l {
		ahead, behind := rows(l[:i]...), rows(l[i+1:]...)
		f.refuse(t, fmt.Sprintf("%s, without row %d", what, i), ahead+behind)
		f.refuse(t, fmt.Sprintf("%s, with row %d twice", what, i), ahead+rows(l[i], l[i])+behind)
		f.refuse(t, fmt.Sprintf("%s, with a nought ahead of row %d's length", what, i), ahead+"0"+rows(l[i])+behind)
		f.refuse(t, fmt.Sprintf("%s, with a sign ahead of row %d's length", what, i), ahead+"+"+rows(l[i])+behind)
		f.refuse(t, fmt.Sprintf("%s, with row %d's end turned", what, i), ahead+strings.TrimSuffix(rows(l[i]), ",")+";"+behind)
		f.hold(t, fmt.Sprintf("%s, with row %d in a row", what, i), ahead+rows(rows(l[i]))+behind)
	}
	f.refuse(t, what+" as a row", rows(b))
}

// turn holds what is told of bytes each of which is turned, in many ways.
func (f form) turn(t *testing.T, what, b string) {
	t.Helper()
	for at := range len(b) {
		for _, by := range []byte{1, 2, 0x10, 0x80, 0xff} {
			turned := []byte(b)
			turned[at] ^= by
			f.hold(t, fmt.Sprintf("%s, byte %d turned by %d", what, at, by), string(turned))
		}
	}
}

// strange tells numbers far from what any number here may be.
func strange() []int {
	return []int{
		math.MinInt, math.MinInt + 1, -1 << 40, -1 << 32, -1<<32 + 1, -1 << 31, -65536, -257, -256, -255, -64, -17, -16, -2, -1,
		17, 63, 65, 127, 128, 255, 256, 257, 258, 1025, 65535, 65536, 65537, 1<<20 + 1, 1<<24 - 1, 1 << 24, 1<<31 - 1, 1 << 31,
		1<<32 - 1, 1 << 32, 1<<32 + 1, 1<<32 + 64, 1<<40 + 3, 1 << 56, 1<<56 + 5, 1 << 62, math.MaxInt - 1, math.MaxInt,
	}
}

func hashOf(seed int) api.Hash { return tagged("test", strconv.Itoa(seed)) }

func hashRow(n, seed int) []api.Hash {
	var l []api.Hash
	for i := range n {
		l = append(l, hashOf(seed*1000+i))
	}
	return l
}

func keyOf(seed int) api.Key {
	h := hashOf(seed)
	return api.Key(h[:16])
}

// bytesOf tells n bytes, others for another seed.
func bytesOf(n, seed int) []byte {
	b := make([]byte, n)
	state := uint64(seed)*2654435761 + uint64(n)*40503 + 1
	for i := range b {
		state = state*6364136223846793005 + 1442695040888963407
		b[i] = byte(state >> 56)
	}
	return b
}
