package tree

import (
	"slices"

	"aumbry/api"
	"aumbry/sha"
)

// joiner makes one hash of two. It is Node, but in tests: nobody knows two unlike texts that have one hash, so a search for them is tested with a joiner for which there are such.
type joiner func(a, b api.Hash) api.Hash

// levels tells a tree level by level: the leaves, padded, and so on up to the root alone.
func levels(join joiner, l []api.Hash) [][]api.Hash {
	level := padded(l)
	all := [][]api.Hash{level}
	for len(level) > 1 {
		level = above(join, level)
		all = append(all, level)
	}
	return all
}

// padded tells the leaves with the hash of none behind them, till they are a power of 2.
func padded(l []api.Hash) []api.Hash {
	level := make([]api.Hash, Pad(len(l)))
	none := sha.Tagged("pad")
	for i := copy(level, l); i < len(level); i++ {
		level[i] = none
	}
	return level
}

// above tells what stands above a level, half as long.
func above(join joiner, level []api.Hash) []api.Hash {
	half := make([]api.Hash, len(level)/2)
	for i := range half {
		half[i] = join(level[2*i], level[2*i+1])
	}
	return half
}

// climb tells the way from leaf i up as levels of two: the hash on the way and the one beside it, as they stand, and so on up to the root alone; false: there is no such way.
func climb(join joiner, n, i int, leaf api.Hash, proof []api.Hash) ([][]api.Hash, bool) {
	if i < 0 || i >= n || n > mostClimb || len(proof) != height(n) {
		return nil, false
	}
	var way [][]api.Hash
	for _, beside := range proof {
		pair := []api.Hash{leaf, beside}
		if i%2 == 1 {
			slices.Reverse(pair)
		}
		way = append(way, pair)
		leaf = join(pair[0], pair[1])
		i /= 2
	}
	return append(way, []api.Hash{leaf}), true
}

// top tells the root that levels end with.
func top(all [][]api.Hash) api.Hash {
	return all[len(all)-1][0]
}

// breakBy is Break, with a joiner.
func breakBy(join joiner, n, i int, a, b api.Hash, p, q []api.Hash) (api.Break, bool) {
	first, ok := climb(join, n, i, a, p)
	if !ok {
		return api.Break{}, false
	}
	second, ok := climb(join, n, i, b, q)
	if !ok {
		return api.Break{}, false
	}
	return clash(first, second)
}

// unlikeBy is Unlike, with a joiner.
func unlikeBy(join joiner, l, m []api.Hash) (api.Break, bool) {
	if len(l) != len(m) {
		return api.Break{}, false
	}
	return clash(levels(join, l), levels(join, m))
}

// clash tells the texts of the first two unlike pairs, from above and from the left, of levels as high and as long as each other; false: their roots are unlike, or all is one. Above the first unlike pairs nothing is unlike, so that these have one hash.
func clash(a, b [][]api.Hash) (api.Break, bool) {
	if top(a) != top(b) {
		return api.Break{}, false
	}
	for high := len(a) - 2; high >= 0; high-- {
		for left := 0; left < len(a[high]); left += 2 {
			x, y := a[high][left:left+2], b[high][left:left+2]
			if !slices.Equal(x, y) {
				return api.Break{A: nodeText(x[0], x[1]), B: nodeText(y[0], y[1])}, true
			}
		}
	}
	return api.Break{}, false
}
