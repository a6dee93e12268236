package mss_test

import (
	"crypto/sha256"
	"math/rand"
	"os"
	"os/exec"
	"path/filepath"
	"slices"
	"strconv"
	"strings"
	"testing"

	"aumbry/api"
	"aumbry/mss"
	"aumbry/sha"
)

// No two unlike texts of one SHA-256 are known, so what is told of them can't be shown where hashes are such. TestWhereHashesClash copies the program, but with a package sha that has 256 hashes only, and runs those tests there whose names begin with TestClash: there breaks are easily found. (Elsewhere these are skipped.)

// clashing is set where hashes clash.
const clashing = "AUMBRY_HASHES_CLASH"

// clashingSha is that package. Half of the hashes are noughts but for their first and last digits, so that the digits of messages may be below each other's in their checksums alone.
const clashingSha = `package sha

import (
	"bytes"
	"crypto/sha256"

	"aumbry/api"
	"aumbry/code"
)

func Sum(b []byte) api.Hash {
	x := sha256.Sum256(b)[0]
	if x%2 == 1 {
		return sha256.Sum256([]byte{x})
	}
	return api.Hash{0: x & 0xf0, 31: x & 0x0f}
}

func Text(tag string, l ...[]byte) []byte {
	return code.Nets(append([][]byte{[]byte(tag)}, l...)...)
}

func Tagged(tag string, l ...[]byte) api.Hash {
	return Sum(Text(tag, l...))
}

func Short(tag string, l ...[]byte) api.Key {
	h := Tagged(tag, l...)
	return api.Key(h[:16])
}

type Sha struct{ all []byte }

func New() *Sha {
	return &Sha{}
}

func (s *Sha) Write(b []byte) int {
	s.all = append(s.all, b...)
	return len(s.all)
}

func (s *Sha) Sum() api.Hash {
	return Sum(s.all)
}

func Same(b api.Break) bool {
	return !bytes.Equal(b.A, b.B) && Sum(b.A) == Sum(b.B)
}
`

// sum is the hash by which package mss is held.
var sum = hasher()

func hasher() func([]byte) api.Hash {
	if os.Getenv(clashing) != "" {
		return sha.Sum
	}
	return func(b []byte) api.Hash { return sha256.Sum256(b) }
}

func TestWhereHashesClash(t *testing.T) {
	if os.Getenv(clashing) != "" {
		t.Skip("they clash here")
	}
	tool, err := exec.LookPath("go")
	if err != nil {
		t.Skip(err)
	}
	dir := t.TempDir()
	for _, pattern := range []string{"go.mod", "api/*.go", "code/*.go", "tree/*.go", "wots/*.go", "mss/*.go"} {
		copyFiles(t, dir, pattern)
	}
	writeFile(t, filepath.Join(dir, "sha", "sha.go"), []byte(clashingSha))
	run := exec.Command(tool, "test", "-count=1", "-v", "-run", "^TestClash", "./mss")
	run.Dir = dir
	run.Env = append(os.Environ(), clashing+"=1", "PWD="+dir)
	out, err := run.CombinedOutput()
	if err != nil || strings.Count(string(out), "--- PASS: TestClash") < 8 {
		t.Errorf("%v: %s", err, out)
	}
}

// copyFiles copies what a pattern names of the program.
func copyFiles(t *testing.T, dir, pattern string) {
	t.Helper()
	names, err := filepath.Glob(filepath.Join("..", pattern))
	if err != nil || len(names) == 0 {
		t.Fatal(pattern, err)
	}
	for _, name := range names {
		b, err := os.ReadFile(name)
		if err != nil {
			t.Fatal(err)
		}
		writeFile(t, filepath.Join(dir, filepath.Dir(pattern), filepath.Base(name)), b)
	}
}

func writeFile(t *testing.T, name string, b []byte) {
	t.Helper()
	if err := os.MkdirAll(filepath.Dir(name), 0o777); err != nil {
		t.Fatal(err)
	}
	if err := os.WriteFile(name, b, 0o666); err != nil {
		t.Fatal(err)
	}
}

// onlyClashing skips a test where hashes do not clash.
func onlyClashing(t *testing.T) *rand.Rand {
	t.Helper()
	if os.Getenv(clashing) == "" {
		t.Skip("TestWhereHashesClash runs this")
	}
	return rand.New(rand.NewSource(1))
}

// allHashes are the 256 hashes that there are, in any order.
func allHashes(r *rand.Rand) []api.Hash {
	var all []api.Hash
	for n := 0; len(all) < 256; n++ {
		if hash := sum([]byte(strconv.Itoa(n))); !slices.Contains(all, hash) {
			all = append(all, hash)
		}
	}
	r.Shuffle(len(all), func(i, j int) { all[i], all[j] = all[j], all[i] })
	return all
}

// some are n of all hashes.
func some(r *rand.Rand, all []api.Hash, n int) []api.Hash {
	l := make([]api.Hash, n)
	for i := range l {
		l[i] = all[r.Intn(len(all))]
	}
	return l
}

// How a forgery came to be.
const (
	byPrint  = "print"
	byNode   = "node"
	byPublic = "public"
	byMsg    = "msg"
	byStep   = "step"
	byLeak   = "leak"
)

// broken is a forgery by a break.
func broken(a, b string) mss.Forge {
	return mss.Forge{Break: api.Break{A: []byte(a), B: []byte(b)}}
}

// explained is another maker of Explain, of a right signature, where the leaf signed own, or nothing.
func explained(seed api.Key, height int, own, m []byte, s api.Sig) (string, mss.Forge) {
	leaves := leavesOf(seed, 1<<height)
	leaf := leafOf(m, s.Values)
	a, b := textOfPrint(height, above(leaves, height, 0)), textOfPrint(s.Height, climbed(s.Leaf, leaf, s.Proof))
	if a != b {
		return byPrint, broken(a, b)
	}
	first, second := nodesOf(s.Leaf, leaves[s.Leaf], beside(leaves, height, s.Leaf)), nodesOf(s.Leaf, leaf, s.Proof)
	for level := height - 1; level >= 0; level-- {
		if first[level] != second[level] {
			return byNode, broken(first[level], second[level])
		}
	}
	a = textOfEnds(trueEnds(seed, s.Leaf))
	b = textOfEnds(endsOf(s.Values, digitsOf(m)))
	if a != b {
		return byPublic, broken(a, b)
	}
	if len(own) > 0 && slices.Equal(digitsOf(own), digitsOf(m)) {
		return byMsg, broken(text("msg", string(own)), text("msg", string(m)))
	}
	f := leakOf(own, m, s)
	for place := 14; place >= f.Place; place-- {
		x, y := walked(startOf(seed, s.Leaf, f.Chain), place), walked(f.Value, place-f.Place)
		if x != y {
			return byStep, broken(text("step", raw(x)), text("step", raw(y)))
		}
	}
	return byLeak, f
}

// nodesOf is the texts of the nodes on a way up, from below.
func nodesOf(leaf int, hash api.Hash, proof []api.Hash) []string {
	var texts []string
	for level, other := range proof {
		pair := [2]string{raw(climbed(leaf, hash, proof[:level])), raw(other)}
		turn := leaf >> level & 1
		texts = append(texts, text("node", pair[turn], pair[1-turn]))
	}
	return texts
}

// tally counts how forgeries came to be, and of leaks and steps on which chains.
type tally map[string]int

// holdExplained holds what is told of a right signature of m, where the leaf signed own, or nothing.
func (found tally) holdExplained(t *testing.T, seed api.Key, height int, row [][]byte, own, m []byte, s api.Sig) {
	t.Helper()
	if !mss.Verify(printOfSeed(seed, height), m, s) {
		t.Fatalf("height %d, leaf %d: no right signature", s.Height, s.Leaf)
	}
	why, want := explained(seed, height, own, m, s)
	found[why]++
	if why == byStep || why == byLeak {
		found[why+" "+strconv.Itoa(leakOf(own, m, s).Chain)]++
		found[why+" at "+strconv.Itoa(leakOf(own, m, s).Place)]++
	}
	got, ok := mss.Explain(seed, height, row, m, s)
	if !ok || !sameForge(got, want) {
		t.Errorf("%s: Explain(%d, %q, %q, height %d, leaf %d) = %v, %v, want %v", why, height, row, m, s.Height, s.Leaf, got, ok, want)
	}
	if !mss.Holds(seed, height, row, got) {
		t.Errorf("%s: %v of %q does not hold", why, got, row)
	}
	if got.Leak == sha.Same(got.Break) {
		t.Errorf("%s: %v is a leak and a break, or none of them", why, got)
	}
}

// holdRows holds a right signature with a leaf that signed nothing, another message, one of the same digits, and just this one.
func (found tally) holdRows(t *testing.T, r *rand.Rand, seed api.Key, height int, m []byte, s api.Sig) {
	t.Helper()
	found.holdExplained(t, seed, height, nil, nil, m, s)
	found.holdExplained(t, seed, height, at(s.Leaf, nil), nil, m, s)
	found.holdExplained(t, seed, height, at(s.Leaf, m)[:s.Leaf], nil, m, s)
	for range 4 {
		own := []byte("own " + strconv.Itoa(r.Int()))
		found.holdExplained(t, seed, height, at(s.Leaf, own), own, m, s)
	}
	own := alike(r, m)
	found.holdExplained(t, seed, height, at(s.Leaf, own), own, m, s)
	holdUnexplained(t, "signed", seed, height, at(s.Leaf, m), m, s)
}

// alike is a message with m's digits.
func alike(r *rand.Rand, m []byte) []byte {
	for {
		other := []byte("alike " + strconv.Itoa(r.Int()))
		if tagged("msg", string(other)) == tagged("msg", string(m)) {
			return other
		}
	}
}

// holdFound holds that each of these ways was met.
func (found tally) holdFound(t *testing.T, least int, ways ...string) {
	t.Helper()
	for _, way := range ways {
		if found[way] < least {
			t.Errorf("%q was met %d times: %v", way, found[way], found)
		}
	}
}

// fitTop looks for a proof's last hash with which a signature is right.
func fitTop(all []api.Hash, fp api.Hash, m []byte, s api.Sig) bool {
	top := s.Height - 1
	below := climbed(s.Leaf, leafOf(m, s.Values), s.Proof[:top])
	for _, hash := range all {
		s.Proof[top] = hash
		if printOf(s.Height, climbed(s.Leaf>>top, below, s.Proof[top:])) == fp {
			return true
		}
	}
	return false
}

// Signatures of any height and any values, under a print by chance.
func TestClashOfPrintsAndNodes(t *testing.T) {
	r := onlyClashing(t)
	all, found := allHashes(r), tally{}
	heights := map[[2]int]int{}
	for range 100 {
		height, other, seed := r.Intn(4), 1+r.Intn(4), seeds()[r.Intn(6)]
		m := []byte(strconv.Itoa(r.Int()))
		s := api.Sig{Height: other, Leaf: r.Intn(1 << other), Values: some(r, all, 67), Proof: some(r, all, other)}
		if !fitTop(all, printOfSeed(seed, height), m, s) {
			continue
		}
		heights[[2]int{height, other}]++
		if s.Leaf < 1<<height {
			found.holdRows(t, r, seed, height, m, s)
		} else {
			// There is no such leaf: whatever the row has there, it signed nothing.
			found.holdExplained(t, seed, height, at(s.Leaf, m), nil, m, s)
		}
	}
	found.holdFound(t, 50, byPrint)
	found.holdFound(t, 20, byNode)
	if len(heights) != 16 {
		t.Errorf("heights that were met: %v", heights)
	}
}

// A tree of no height has no leaves, and no print: what would be right under the print of none is not explained.
func TestClashOfNoHeight(t *testing.T) {
	r := onlyClashing(t)
	all, met := allHashes(r), 0
	for _, height := range noHeights() {
		fp := printOf(max(height, 0), tagged("pad"))
		for other := 1; other <= 4; other++ {
			m := []byte(strconv.Itoa(r.Int()))
			s := api.Sig{Height: other, Leaf: r.Intn(1 << other), Values: some(r, all, 67), Proof: some(r, all, other)}
			if fitTop(all, fp, m, s) {
				holdYes(t, "the print of none", fp, m, s)
				holdUnexplained(t, "no height", rising(), height, nil, m, s)
				met++
			}
		}
	}
	if met < 20 {
		t.Errorf("only %d were right under the print of none", met)
	}
}

// True values, and a proof that is true but for some hashes.
func TestClashOfProofs(t *testing.T) {
	r := onlyClashing(t)
	all, found := allHashes(r), tally{}
	for range 120 {
		height := 1 + r.Intn(4)
		m := []byte(strconv.Itoa(r.Int()))
		s := signed(rising(), height, r.Intn(1<<height), m)
		fp := printOfSeed(rising(), height)
		s.Proof[r.Intn(height)] = all[r.Intn(256)]
		if fitTop(all, fp, m, s) {
			found.holdExplained(t, rising(), height, nil, nil, m, s)
		}
	}
	found.holdFound(t, 20, byPrint, byNode)
}

// Another leaf's values, of one Public, or others whose ends are unlike the true ones.
func TestClashOfPublics(t *testing.T) {
	r := onlyClashing(t)
	all, found := allHashes(r), tally{}
	for range 10 {
		height := r.Intn(3)
		m := []byte(strconv.Itoa(r.Int()))
		s := signed(rising(), height, r.Intn(1<<height), m)
		want := leafOf(m, s.Values)
		for range 20 {
			s.Values[r.Intn(67)] = all[r.Intn(256)]
		}
		chain := r.Intn(67)
		for _, hash := range all {
			s.Values[chain] = hash
			if leafOf(m, s.Values) == want {
				found.holdRows(t, r, rising(), height, m, s)
			}
		}
	}
	found.holdFound(t, 30, byPublic)
}

// waysOf is each hash's way along a chain.
func waysOf(all []api.Hash) map[api.Hash][]api.Hash {
	ways := map[api.Hash][]api.Hash{}
	for _, hash := range all {
		for range 16 {
			ways[hash] = append(ways[hash], walked(hash, len(ways[hash])))
		}
	}
	return ways
}

// toOneEnd are all hashes that lead to the end that a value at a digit leads to.
func toOneEnd(all []api.Hash, ways map[api.Hash][]api.Hash, value api.Hash, digit int) []api.Hash {
	var fit []api.Hash
	for _, hash := range all {
		if ways[hash][15-digit] == ways[value][15-digit] {
			fit = append(fit, hash)
		}
	}
	return fit
}

// Values of which some are true, and all others lead to the true ends.
func TestClashOfSteps(t *testing.T) {
	r := onlyClashing(t)
	all, found := allHashes(r), tally{}
	ways := waysOf(all)
	for n := range 60 {
		height := r.Intn(3)
		seed := seeds()[r.Intn(6)]
		m := []byte(strconv.Itoa(r.Int()))
		s := signed(seed, height, r.Intn(1<<height), m)
		for chain, digit := range digitsOf(m) {
			fit := toOneEnd(all, ways, s.Values[chain], digit)
			if r.Intn(3) < n%4 {
				s.Values[chain] = fit[r.Intn(len(fit))]
			}
		}
		found.holdRows(t, r, seed, height, m, s)
	}
	found.holdFound(t, 20, byMsg)
	found.holdFound(t, 100, byStep, byLeak)
	found.holdFound(t, 1, "step 0", "step 1", "step 63", "step 64", "step 65", "step 66", "leak 0", "leak 1", "leak 63", "leak 64", "leak 65", "leak 66")
	found.holdFound(t, 1, "step at 0", "step at 14", "leak at 0", "leak at 14", "leak at 15")
}

// Ways that are unlike at just one place, at some, and from the beginning on.
func TestClashOfStepsAtEachPlace(t *testing.T) {
	r := onlyClashing(t)
	all, found := allHashes(r), tally{}
	ways := waysOf(all)
	lengths := map[int]int{}
	for n := range 25 {
		m := []byte(strconv.Itoa(n))
		s := signed(rising(), 0, 0, m)
		value := s.Values[0]
		for _, hash := range toOneEnd(all, ways, value, digitsOf(m)[0]) {
			s.Values[0] = hash
			found.holdExplained(t, rising(), 0, nil, nil, m, s)
			apart := 0
			for ways[hash][apart] != ways[value][apart] {
				apart++
			}
			lengths[apart]++
		}
	}
	found.holdFound(t, 100, byStep)
	found.holdFound(t, 10, byLeak)
	for apart := range 8 {
		if lengths[apart] == 0 {
			t.Errorf("no ways were apart for %d places: %v", apart, lengths)
		}
	}
}

// P9.4: a break holds, wherever else it points to within the ranges, and whatever was signed.
func TestClashHolds(t *testing.T) {
	r := onlyClashing(t)
	a := []byte("a")
	b := slices.Clone(a)
	for n := 0; slices.Equal(a, b) || sum(a) != sum(b); n++ {
		b = []byte(strconv.Itoa(n))
	}
	unlike := []byte("unlike")
	for sum(a) == sum(unlike) {
		unlike = append(unlike, 'x')
	}
	for height := range 5 {
		last := 1<<height - 1
		for range 30 {
			for _, f := range []mss.Forge{{}, {Leaf: last}, {Chain: 66}, {Place: 15}, {Leaf: last, Chain: 66, Place: 15}} {
				f.Break, f.Leak = api.Break{A: a, B: b}, r.Intn(2) == 0
				row := at(r.Intn(20), []byte("own"))
				holdHolds(t, "a break", rising(), height, row, f, true)
				f.Break = api.Break{A: b, B: a}
				holdHolds(t, "a break", rising(), height, nil, f, true)
				f.Leak = false
				f.Break.B = b
				holdHolds(t, "one text", rising(), height, nil, f, false)
				f.Break.B = unlike
				holdHolds(t, "texts of unlike hashes", rising(), height, nil, f, sum(b) == sum(unlike))
			}
		}
		for _, f := range []mss.Forge{{Leaf: -1}, {Leaf: last + 1}, {Chain: -1}, {Chain: 67}, {Place: -1}, {Place: 16}, {Leaf: 1 << 40}, {Chain: 1 << 40}, {Place: 1 << 40}} {
			f.Break = api.Break{A: a, B: b}
			holdHolds(t, "a break outside", rising(), height, nil, f, false)
			f.Leak = true
			holdHolds(t, "a break outside", rising(), height, nil, f, false)
		}
	}
	for _, height := range noHeights() {
		holdHolds(t, "a break of no height", rising(), height, nil, mss.Forge{Break: api.Break{A: a, B: b}}, false)
	}
}

// R4: each text of a break is new memory.
func TestClashInMemory(t *testing.T) {
	r := onlyClashing(t)
	all, found := allHashes(r), tally{}
	ways := waysOf(all)
	for n := range 60 {
		m := []byte(strconv.Itoa(r.Int()))
		s := signed(rising(), 2, r.Intn(4), m)
		row := at(s.Leaf, []byte("own"))
		switch n % 3 {
		case 0:
			fp := printOfSeed(rising(), 2)
			s.Proof[0] = all[r.Intn(256)]
			if !fitTop(all, fp, m, s) {
				continue
			}
		case 1:
			fit := toOneEnd(all, ways, s.Values[0], digitsOf(m)[0])
			s.Values[0] = fit[r.Intn(len(fit))]
			row = nil
		default:
			row[s.Leaf] = alike(r, m)
		}
		found.holdMemory(t, row, m, s)
	}
	found.holdFound(t, 1, byPrint, byNode, byMsg, byStep, byLeak)
}

// holdMemory holds that nothing handed in is changed, and that no text of a break lies in it, in the other one, or in one that was handed back before.
func (found tally) holdMemory(t *testing.T, row [][]byte, m []byte, s api.Sig) {
	t.Helper()
	own := append(slices.Clone(row), make([][]byte, 4)...)[s.Leaf]
	why, want := explained(rising(), 2, own, m, s)
	found[why]++
	all, in, sig := rowWithin(row, 3), within(m, 3), sigWithin(s, 3)
	got, _ := mss.Explain(rising(), 2, all, in, sig)
	again, _ := mss.Explain(rising(), 2, all, in, sig)
	if !sameForge(got, want) || !mss.Holds(rising(), 2, all, got) {
		t.Errorf("%s: Explain of %q, %q within others = %v, want %v", why, row, m, got, want)
	}
	spoil(got.Break.A)
	if string(got.Break.B) != string(want.Break.B) {
		t.Errorf("%s: both texts lie in one memory", why)
	}
	spoil(got.Break.B)
	if !rowUntouched(row, all, 3) || !untouched(m, in, 3) || !sigUntouched(s, sig, 3) {
		t.Errorf("%s: what was handed in is changed, or a text lies in it", why)
	}
	spoil(in)
	for i := range all {
		spoil(all[i])
	}
	if !sameForge(again, want) {
		t.Errorf("%s: %v lies in what was handed in, or back before", why, again)
	}
}
