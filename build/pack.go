package build

import "slices"

// coin is a leaf or a package of two coins. What a package holds is told by its place: a row's packages stand in the order in which they were made of the row ahead.
type coin struct {
	weight int
	leaf   bool
}

// pack tells how often each leaf of these rising weights, two or more, is among the coins that pay for all words of at most limit bits.
func pack(weights []int, limit int) []int {
	lengths := make([]int, len(weights))
	need := 2*len(weights) - 2
	for _, row := range slices.Backward(rows(weights, limit)) {
		leaves := 0
		for _, c := range row[:need] {
			if c.leaf {
				lengths[leaves]++
				leaves++
			}
		}
		need = 2 * (need - leaves) // the packages that were needed are made of the first coins of the row ahead
	}
	return lengths
}

// rows tells the rows of coins, from the leaves alone up to the row with the number limit.
func rows(weights []int, limit int) [][]coin {
	all := [][]coin{merge(weights, nil)}
	for len(all) < limit {
		all = append(all, merge(weights, pairs(all[len(all)-1])))
	}
	return all
}

// pairs tells the weights of the packages that are made of a row. One coin may be left over.
func pairs(row []coin) []int {
	packages := make([]int, len(row)/2)
	for at := range packages {
		packages[at] = row[2*at].weight + row[2*at+1].weight
	}
	return packages
}

// merge makes a row of leaves and packages, both of rising weights; of equal weights the leaves stand ahead.
func merge(leaves, packages []int) []coin {
	row := make([]coin, 0, len(leaves)+len(packages))
	for _, weight := range packages {
		for len(leaves) > 0 && leaves[0] <= weight {
			row = append(row, coin{leaves[0], true})
			leaves = leaves[1:]
		}
		row = append(row, coin{weight, false})
	}
	for _, weight := range leaves {
		row = append(row, coin{weight, true})
	}
	return row
}
