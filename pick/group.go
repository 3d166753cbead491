package pick

import (
	"iter"

	"reedpipe/api"
)

// inGroup hands out the lines of a band, window behind window of a group.
func inGroup(offsets []int, i api.Info, group, b int, x []int) iter.Seq[[]int] {
	return func(yield func([]int) bool) {
		first := 0
		for _, many := range i.Groups[:group] {
			first += many
		}
		for w := first; w < first+i.Groups[group]; w++ {
			if !yield(x[w*api.Short+offsets[b] : w*api.Short+offsets[b+1]]) {
				return
			}
		}
	}
}

// each goes over the lines of a band of two channels at once.
func each(offsets []int, i api.Info, group, b int, left, right []int, do func(l, r []int)) {
	var rights [][]int
	for r := range inGroup(offsets, i, group, b, right) {
		rights = append(rights, r)
	}
	for l := range inGroup(offsets, i, group, b, left) {
		do(l, rights[0])
		rights = rights[1:]
	}
}
