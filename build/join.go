package build

import "valise/heap"

// join joins leaves of these weights, two or more, to one node, and tells how many joined nodes hold each leaf.
func join(weights []int) []int {
	holders := hold(weights)
	depths := make([]int, len(holders)+1)
	// A node's number is below its holder's: from the last one down each holder's depth is there before it is asked for.
	for number := len(holders) - 1; number >= 0; number-- {
		depths[number] = depths[holders[number]] + 1
	}
	return depths[:len(weights)]
}

// hold tells for each node, by its number, the number of the one that it was joined into. The last node, which holds all, has none.
func hold(weights []int) []int {
	row := heap.New[int]()
	for number, weight := range weights {
		row.Push(weight, number)
	}
	holders := make([]int, 2*len(weights)-2)
	// Nodes go into the heap by rising number, so that its order of equal keys is the one by numbers.
	for joined := len(weights); row.Len() > 1; joined++ {
		lightest, one, _ := row.Pop()
		next, two, _ := row.Pop()
		holders[one], holders[two] = joined, joined
		row.Push(lightest+next, joined)
	}
	return holders
}
