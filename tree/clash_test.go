package tree

import (
	"bytes"
	"math/rand"
	"slices"
	"strconv"
	"testing"

	"aumbry/api"
	"aumbry/sha"
)

// No two unlike texts of one SHA-256 are known. So these tests hand in joiners for which some are, and Break and Unlike are breakBy and unlikeBy with Node.

const hashBytes = len(api.Hash{})

// dropping joins so that a break can be made on purpose: what is turned in byte j of one hash is turned in byte j-1 of the next one above it, and falls away when j is 0. So byte j makes unlike pairs on j+1 levels, and the uppermost of these have one hash.
func dropping(a, b api.Hash) api.Hash {
	var sum api.Hash
	for j := range hashBytes - 1 {
		sum[j] = a[j+1] + 3*b[j+1]
	}
	return sum
}

// short joins like Node, but all bytes behind the first one fall away: some texts have one such hash by chance.
func short(a, b api.Hash) api.Hash {
	return api.Hash{Node(a, b)[0]}
}

// text is what is hashed for two hashes, put together by hand.
func text(a, b api.Hash) string {
	return "4:node,32:" + string(a[:]) + ",32:" + string(b[:]) + ","
}

// untext is the two hashes that a text is of.
func untext(t *testing.T, s []byte) (a, b api.Hash) {
	t.Helper()
	if len(s) == len(text(a, b)) {
		copy(a[:], s[10:])
		copy(b[:], s[46:])
	}
	if string(s) != text(a, b) {
		t.Fatalf("no text of two hashes: %q", s)
	}
	return a, b
}

// oneHash says whether a break is two unlike texts to which a joiner gives one hash.
func oneHash(t *testing.T, join joiner, got api.Break) bool {
	t.Helper()
	a, b := untext(t, got.A)
	c, d := untext(t, got.B)
	return !bytes.Equal(got.A, got.B) && join(a, b) == join(c, d)
}

// mixedRow is n hashes far from any rule.
func mixedRow(r *rand.Rand, n int) []api.Hash {
	l := make([]api.Hash, n)
	for i := range l {
		r.Read(l[i][:])
	}
	return l
}

// pairsOf is the pairs on a way, from below, as texts, and the root: bit h of i says on which side the way comes.
func pairsOf(join joiner, i int, leaf api.Hash, proof []api.Hash) (texts []string, root api.Hash) {
	for h, beside := range proof {
		if i>>h&1 == 0 {
			texts = append(texts, text(leaf, beside))
			leaf = join(leaf, beside)
		} else {
			texts = append(texts, text(beside, leaf))
			leaf = join(beside, leaf)
		}
	}
	return texts, leaf
}

// uppermost is the highest level on which texts are unlike; -1: on none.
func uppermost(a, b []string) int {
	found := -1
	for h := range a {
		if a[h] != b[h] {
			found = h
		}
	}
	return found
}

// holdWays holds what breakBy tells of two ways; level is where the break is to be, -1 if there is to be none.
func holdWays(t *testing.T, why string, join joiner, n, i int, a, b api.Hash, p, q []api.Hash, level int) {
	t.Helper()
	first, _ := pairsOf(join, i, a, p)
	second, _ := pairsOf(join, i, b, q)
	got, ok := breakBy(join, n, i, a, b, p, q)
	back, okBack := breakBy(join, n, i, b, a, q, p)
	if level < 0 {
		if ok || okBack || got.A != nil || got.B != nil || back.A != nil || back.B != nil {
			t.Errorf("%s: %d of %d: %q, %v, and %q, %v, want false alone", why, i, n, got, ok, back, okBack)
		}
		return
	}
	if !ok || string(got.A) != first[level] || string(got.B) != second[level] {
		t.Errorf("%s: %d of %d: %q, %v, want those at %d, %q, %q", why, i, n, got, ok, level, first[level], second[level])
		return
	}
	if !okBack || string(back.A) != second[level] || string(back.B) != first[level] {
		t.Errorf("%s: %d of %d, the other way about: %q, %v, want those at %d, %q, %q", why, i, n, back, okBack, level, second[level], first[level])
	}
	if !oneHash(t, join, got) {
		t.Errorf("%s: %d of %d: no break: %q", why, i, n, got)
	}
}

// eachPlace hands out heights, numbers of leaves of that height, and places.
func eachPlace(do func(height, n, i int)) {
	for height := range 9 {
		for _, n := range []int{1<<height/2 + 1, 1<<height - 1, 1 << height} {
			if n != 1<<height && n <= 1<<height/2 {
				continue
			}
			for i := range n {
				if n <= 17 || i < 2 || i >= n-2 || i%37 == 0 {
					do(height, n, i)
				}
			}
		}
	}
}

func TestBreakOfTheLeafAlone(t *testing.T) {
	r := rand.New(rand.NewSource(1))
	eachPlace(func(height, n, i int) {
		leaf, proof := mixedRow(r, 1)[0], mixedRow(r, height)
		for j := range hashBytes {
			other := leaf
			other[j] += 5
			level := j
			if j >= height {
				level = -1
			}
			holdWays(t, "byte "+strconv.Itoa(j)+" of the leaf", dropping, n, i, leaf, other, proof, slices.Clone(proof), level)
		}
	})
}

func TestBreakOfOneHashOfTheProof(t *testing.T) {
	r := rand.New(rand.NewSource(2))
	eachPlace(func(height, n, i int) {
		leaf, proof := mixedRow(r, 1)[0], mixedRow(r, height)
		for h := range proof {
			for _, j := range []int{0, 1, 2, 3, 4, 5, 6, 7, 8, 31} {
				other := slices.Clone(proof)
				other[h][j]++
				level := h + j
				if level >= height {
					level = -1
				}
				holdWays(t, "byte "+strconv.Itoa(j)+" of the hash at "+strconv.Itoa(h), dropping, n, i, leaf, leaf, proof, other, level)
			}
		}
	})
}

// The hash beside the way, and not the leaf, in the same bytes: both sides of a pair are held against both.
func TestBreakOfMoreThanOnePlace(t *testing.T) {
	r := rand.New(rand.NewSource(3))
	found := map[int]int{}
	eachPlace(func(height, n, i int) {
		for range 20 {
			leaf, proof := mixedRow(r, 1)[0], mixedRow(r, height)
			other, others := leaf, slices.Clone(proof)
			for range 1 + r.Intn(4) {
				if h := r.Intn(height+1) - 1; h < 0 {
					other[r.Intn(height+1)]++
				} else {
					others[h][r.Intn(height-h+1)]++
				}
			}
			first, root := pairsOf(dropping, i, leaf, proof)
			second, root2 := pairsOf(dropping, i, other, others)
			level := uppermost(first, second)
			if root != root2 {
				level = -1
			}
			found[level]++
			holdWays(t, "some bytes", dropping, n, i, leaf, other, proof, others, level)
		}
	})
	for level := -1; level < 8; level++ {
		if found[level] == 0 {
			t.Errorf("no ways were unlike at %d", level)
		}
	}
}

// Two breaks on one way: the upper one is told, and where it is the lower one's like is of no weight.
func TestBreakOfTwoBreaks(t *testing.T) {
	r := rand.New(rand.NewSource(4))
	leaf, proof := mixedRow(r, 1)[0], mixedRow(r, 8)
	for low := range 8 {
		for high := range low {
			other, others := leaf, slices.Clone(proof)
			other[high]++
			others[low][0]++
			holdWays(t, "a leaf's break below a proof's", dropping, 256, 77, leaf, other, proof, others, low)
			holdWays(t, "the same, one in each way", dropping, 256, 77, other, leaf, proof, others, low)
		}
		other, others := leaf, slices.Clone(proof)
		other[7]++
		others[low][0]++
		holdWays(t, "a proof's break below a leaf's", dropping, 256, 77, leaf, other, proof, others, 7)
		other[8]++
		holdWays(t, "breaks, and unlike roots", dropping, 256, 77, leaf, other, proof, others, -1)
	}
}

// The pairs of a way stand as they are hashed: in the other order they would be another way's.
func TestBreakOfPlacesNextToEachOther(t *testing.T) {
	r := rand.New(rand.NewSource(5))
	l := mixedRow(r, 3)
	a, b, beside := l[0], l[0], l[2]
	b[0]++
	for i, want := range [][2]string{{text(a, beside), text(b, beside)}, {text(beside, a), text(beside, b)}} {
		got, ok := breakBy(dropping, 2, i, a, b, []api.Hash{beside}, []api.Hash{beside})
		if !ok || string(got.A) != want[0] || string(got.B) != want[1] {
			t.Errorf("leaf %d of 2: %q, %v, want %q", i, got, ok, want)
		}
	}
}

// Where one of the ways leads nowhere there is no break, whatever the hashes would say.
func TestNoBreakWhereNoWay(t *testing.T) {
	r := rand.New(rand.NewSource(6))
	for height := 1; height <= 9; height++ {
		n := 1 << height
		leaf, proof := mixedRow(r, 1)[0], mixedRow(r, height)
		other := leaf
		other[0]++
		level := 0
		if n > 256 {
			level = -1
		}
		holdWays(t, "as it is", dropping, n, 0, leaf, other, proof, proof, level)
		for _, i := range []int{-1, -n, n, n + 1, 256} {
			if i < 0 || i >= n {
				holdWays(t, "no such leaf", dropping, n, i, leaf, other, proof, proof, -1)
			}
		}
		holdWays(t, "too few leaves", dropping, n/2, 0, leaf, other, proof, proof, -1)
		holdWays(t, "too many leaves", dropping, n+1, 0, leaf, other, proof, proof, -1)
		holdWays(t, "no leaves", dropping, 0, 0, leaf, other, proof, proof, -1)
		holdWays(t, "no number", dropping, -n, 0, leaf, other, proof, proof, -1)
		// Both lead to one root, but one of them is not as long as the tree is high.
		up := dropping(leaf, proof[0])
		holdUneven(t, "one too short", n, leaf, up, proof, proof[1:])
		holdUneven(t, "one too long", n/2, leaf, up, proof, proof[1:])
	}
}

// holdUneven holds that ways of unlike lengths have no break, in either order.
func holdUneven(t *testing.T, why string, n int, a, b api.Hash, p, q []api.Hash) {
	t.Helper()
	got, ok := breakBy(dropping, n, 0, a, b, p, q)
	back, okBack := breakBy(dropping, n, 0, b, a, q, p)
	if ok || okBack || got.A != nil || got.B != nil || back.A != nil || back.B != nil {
		t.Errorf("%s: %d leaves: %q, %v, and %q, %v, want false alone", why, n, got, ok, back, okBack)
	}
}

// pairsAbove is a tree's pairs as texts, level by level from below, and its root: those that are none stand behind the leaves.
func pairsAbove(join joiner, l []api.Hash) (texts [][]string, root api.Hash) {
	l = slices.Clone(l)
	for len(l) == 0 || len(l)&(len(l)-1) != 0 {
		l = append(l, sha.Tagged("pad"))
	}
	for len(l) > 1 {
		var level []string
		var up []api.Hash
		for i := 0; i < len(l); i += 2 {
			level = append(level, text(l[i], l[i+1]))
			up = append(up, join(l[i], l[i+1]))
		}
		texts = append(texts, level)
		l = up
	}
	return texts, l[0]
}

// holdRows holds what unlikeBy tells of two rows; level and place are where the break is to be, level -1 if there is to be none.
func holdRows(t *testing.T, why string, join joiner, l, m []api.Hash, level, place int) {
	t.Helper()
	got, ok := unlikeBy(join, l, m)
	back, okBack := unlikeBy(join, m, l)
	if level < 0 {
		if ok || okBack || got.A != nil || got.B != nil || back.A != nil || back.B != nil {
			t.Errorf("%s: %d and %d leaves: %q, %v, and %q, %v, want false alone", why, len(l), len(m), got, ok, back, okBack)
		}
		return
	}
	first, _ := pairsAbove(join, l)
	second, _ := pairsAbove(join, m)
	a, b := first[level][place], second[level][place]
	if !ok || string(got.A) != a || string(got.B) != b {
		t.Errorf("%s: %d leaves: %q, %v, want those at %d, %d: %q, %q", why, len(l), got, ok, level, place, a, b)
		return
	}
	if !okBack || string(back.A) != b || string(back.B) != a {
		t.Errorf("%s: %d leaves, the other way about: %q, %v, want those at %d, %d: %q, %q", why, len(l), back, okBack, level, place, b, a)
	}
	if !oneHash(t, join, got) {
		t.Errorf("%s: %d leaves: no break: %q", why, len(l), got)
	}
}

// sizes are numbers of leaves, with their heights.
func sizes() [][2]int {
	all := [][2]int{{1, 0}, {2, 1}, {31, 5}, {32, 5}, {33, 6}, {64, 6}, {65, 7}, {257, 9}}
	for n := 3; n <= 17; n++ {
		height := 2
		for 1<<height < n {
			height++
		}
		all = append(all, [2]int{n, height})
	}
	return all
}

func TestUnlikeInOneLeaf(t *testing.T) {
	r := rand.New(rand.NewSource(7))
	for _, s := range sizes() {
		n, height := s[0], s[1]
		l := mixedRow(r, n)
		holdRows(t, "one row", dropping, l, slices.Clone(l), -1, 0)
		for x := range l {
			if n > 40 && x%13 != 0 && x != n-1 {
				continue
			}
			for j := range 12 {
				m := slices.Clone(l)
				m[x][j]++
				level := j
				if j >= height {
					level = -1
				}
				holdRows(t, "byte "+strconv.Itoa(j)+" of leaf "+strconv.Itoa(x), dropping, l, m, level, x>>(j+1))
			}
		}
	}
}

// Of two leaves the one whose break is above the other one's; of breaks of one level the one on the left.
func TestUnlikeInTwoLeaves(t *testing.T) {
	r := rand.New(rand.NewSource(8))
	for _, s := range sizes() {
		n, height := s[0], s[1]
		if n > 17 {
			continue
		}
		l := mixedRow(r, n)
		for x := range l {
			for y := range x {
				for j := range height {
					for k := range height {
						m := slices.Clone(l)
						m[x][j]++
						m[y][k]++
						level, place := j, x>>(j+1)
						if k >= j {
							level, place = k, y>>(k+1)
						}
						holdRows(t, "two leaves", dropping, l, m, level, place)
						p := slices.Clone(l)
						p[x][j] += 5 // not made even by m's, whatever times 3 both are taken
						m[x][j]--
						holdRows(t, "two leaves, one in each row", dropping, p, m, level, place)
					}
				}
			}
		}
	}
}

func TestUnlikeInSomeLeaves(t *testing.T) {
	r := rand.New(rand.NewSource(9))
	none := 0
	for _, s := range sizes() {
		n, height := s[0], s[1]
		for range 200 {
			l := mixedRow(r, n)
			m := slices.Clone(l)
			for range r.Intn(6) {
				m[r.Intn(n)][r.Intn(height+1)]++
			}
			level, place := firstUnlike(l, m)
			if level < 0 {
				none++
			}
			holdRows(t, "some leaves", dropping, l, m, level, place)
		}
	}
	if none == 0 {
		t.Error("no rows had unlike roots")
	}
}

// firstUnlike is where the break of two rows is to be under dropping, found from below; level -1: there is none.
func firstUnlike(l, m []api.Hash) (level, place int) {
	first, root := pairsAbove(dropping, l)
	second, root2 := pairsAbove(dropping, m)
	if root != root2 {
		return -1, 0
	}
	level = -1
	for h := range first {
		for at := len(first[h]) - 1; at >= 0; at-- {
			if first[h][at] != second[h][at] {
				level, place = h, at
			}
		}
	}
	return level, place
}

// Rows of unlike lengths have no break, even if they have one root and unlike Nodes.
func TestUnlikeOfUnlikeLengths(t *testing.T) {
	r := rand.New(rand.NewSource(10))
	holdRows(t, "none", dropping, nil, []api.Hash{}, -1, 0)
	holdRows(t, "none, and what stands for it", dropping, nil, []api.Hash{sha.Tagged("pad")}, -1, 0)
	for _, n := range []int{3, 5, 6, 7, 9, 15} {
		l := mixedRow(r, n)
		m := append(slices.Clone(l), sha.Tagged("pad"))
		holdRows(t, "with none behind", dropping, l, m, -1, 0)
		m[0][0]++
		holdRows(t, "with none behind, and a break", dropping, l, m, -1, 0)
		holdRows(t, "the same, of one length", dropping, l, m[:n], 0, 0)
		l = append(l, sha.Tagged("pad"))
		holdRows(t, "what stands for none, as a leaf", dropping, l, m, 0, 0)
	}
}

// P7.4, where one byte of each hash is left: whatever two ways lead to one root, there is a break.
func TestBreaksOfWaysByChance(t *testing.T) {
	r := rand.New(rand.NewSource(11))
	found := map[int]int{}
	for range 30000 {
		height := r.Intn(4) + 1
		i := r.Intn(1 << height)
		a, b := mixedRow(r, 1)[0], mixedRow(r, 1)[0]
		p := mixedRow(r, height)
		first, root := pairsOf(short, i, a, p)
		second, root2 := pairsOf(short, i, b, p)
		level := -1
		if root == root2 {
			level = uppermost(first, second)
		}
		found[level]++
		holdWays(t, "two leaves by chance", short, 1<<height, i, a, b, p, p, level)
		if got, ok := breakBy(short, 1<<height, i, a, b, p, p); ok && !beginAlike(got) {
			t.Errorf("no break: %q", got)
		}
	}
	for level := -1; level < 4; level++ {
		if found[level] == 0 {
			t.Errorf("no ways were unlike at %d", level)
		}
	}
}

// P7.4, likewise: whatever two unlike rows of as many leaves lead to one root, there is a break.
func TestBreaksOfRowsByChance(t *testing.T) {
	r := rand.New(rand.NewSource(12))
	found := 0
	for range 20000 {
		n := r.Intn(9) + 2
		l, m := mixedRow(r, n), mixedRow(r, n)
		_, root := pairsAbove(short, l)
		_, root2 := pairsAbove(short, m)
		got, ok := unlikeBy(short, l, m)
		if ok != (root == root2) {
			t.Errorf("rows of roots %x, %x: a break: %v", root, root2, ok)
		}
		if ok {
			found++
			if !beginAlike(got) {
				t.Errorf("no break: %q", got)
			}
		}
	}
	if found < 30 {
		t.Errorf("only %d rows had one root", found)
	}
}

// beginAlike says whether two texts are unlike, and their hashes begin with one byte.
func beginAlike(b api.Break) bool {
	return !bytes.Equal(b.A, b.B) && sha.Sum(b.A)[0] == sha.Sum(b.B)[0]
}

// What is a break under another joiner is none under Node.
func TestBreakHangsOnNode(t *testing.T) {
	r := rand.New(rand.NewSource(13))
	for height := 1; height <= 8; height++ {
		leaf, proof := mixedRow(r, 1)[0], mixedRow(r, height)
		other := leaf
		other[0]++
		if got, ok := Break(1<<height, 0, leaf, other, proof, proof); ok || got.A != nil || got.B != nil {
			t.Errorf("Break of unlike leaves, height %d = %q, %v", height, got, ok)
		}
		l := mixedRow(r, 1<<height)
		m := slices.Clone(l)
		m[0][0]++
		if got, ok := Unlike(l, m); ok || got.A != nil || got.B != nil {
			t.Errorf("Unlike of unlike leaves, height %d = %q, %v", height, got, ok)
		}
	}
}

// Memory

// within is l in memory that has other hashes behind its length.
func within(l []api.Hash, behind byte) []api.Hash {
	return slices.Concat(l, slices.Repeat([]api.Hash{{behind}}, 9))[:len(l)]
}

// untouched says whether what within made is as it was, also behind its length.
func untouched(l, got []api.Hash, behind byte) bool {
	return slices.Equal(got[:len(l)+9], slices.Concat(l, slices.Repeat([]api.Hash{{behind}}, 9)))
}

// holdOwn holds that two breaks are one, and lie in memory of their own.
func holdOwn(t *testing.T, why string, got, again api.Break) {
	t.Helper()
	a, b := string(got.A), string(got.B)
	clear(got.A[:cap(got.A)])
	if string(got.B) != b || string(again.A) != a || string(again.B) != b {
		t.Errorf("%s: A lies in other memory that was handed back", why)
	}
	clear(got.B[:cap(got.B)])
	if string(again.A) != a || string(again.B) != b {
		t.Errorf("%s: B lies in other memory that was handed back", why)
	}
}

func TestMemoryOfBreak(t *testing.T) {
	r := rand.New(rand.NewSource(14))
	for height := 1; height <= 8; height++ {
		leaf, proof := mixedRow(r, 1)[0], mixedRow(r, height)
		for h := range proof {
			others := slices.Clone(proof)
			others[h][0]++
			p, q := within(proof, 1), within(others, 2)
			got, ok := breakBy(dropping, 1<<height, 1, leaf, leaf, p, q)
			again, okAgain := breakBy(dropping, 1<<height, 1, leaf, leaf, p, q)
			if !ok || !okAgain || !untouched(proof, p, 1) || !untouched(others, q, 2) {
				t.Fatalf("height %d: no break at %d, or what was handed in is changed", height, h)
			}
			a, b := string(again.A), string(again.B)
			holdOwn(t, "Break", got, again)
			if !untouched(proof, p, 1) || !untouched(others, q, 2) {
				t.Errorf("height %d: a break at %d lies in what was handed in", height, h)
			}
			clear(p[:cap(p)])
			clear(q[:cap(q)])
			if string(again.A) != a || string(again.B) != b {
				t.Errorf("height %d: a break at %d hangs on what was handed in", height, h)
			}
		}
	}
}

func TestMemoryOfUnlike(t *testing.T) {
	r := rand.New(rand.NewSource(15))
	for n := 2; n <= 17; n++ {
		l := mixedRow(r, n)
		for x := range l {
			m := slices.Clone(l)
			m[x][0]++
			p, q := within(l, 1), within(m, 2)
			got, ok := unlikeBy(dropping, p, q)
			again, okAgain := unlikeBy(dropping, p, q)
			if !ok || !okAgain || !untouched(l, p, 1) || !untouched(m, q, 2) {
				t.Fatalf("%d leaves: no break at %d, or what was handed in is changed", n, x)
			}
			a, b := string(again.A), string(again.B)
			holdOwn(t, "Unlike", got, again)
			if !untouched(l, p, 1) || !untouched(m, q, 2) {
				t.Errorf("%d leaves: a break at %d lies in what was handed in", n, x)
			}
			clear(p[:cap(p)])
			clear(q[:cap(q)])
			if string(again.A) != a || string(again.B) != b {
				t.Errorf("%d leaves: a break at %d hangs on what was handed in", n, x)
			}
		}
	}
}
