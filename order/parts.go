package order

// heads tells of each place one place of its part, the same of all in it. Along edges turned round, the place that was told last, of those that are left, leads to none but its own part and places that are taken already.
func heads(edges [][]int) []int {
	all := newWalk(edges)
	for i := range edges {
		if !all.entered[i] {
			all.from(i)
		}
	}
	head := make([]int, len(edges))
	back := newWalk(turned(edges))
	for i := len(all.told) - 1; i >= 0; i-- {
		root := all.told[i]
		if back.entered[root] {
			continue
		}
		taken := len(back.told)
		back.from(root)
		for _, place := range back.told[taken:] {
			head[place] = root
		}
	}
	return head
}

func turned(edges [][]int) [][]int {
	back := make([][]int, len(edges))
	for i, row := range edges {
		for _, to := range row {
			back[to] = append(back[to], i)
		}
	}
	return back
}

// gathered goes by rising places, so each part rises, and the parts come by their least ones.
func gathered(heads []int) [][]int {
	var parts [][]int
	number := make([]int, len(heads)) // of each head its part's number, from 1
	for place, head := range heads {
		if number[head] == 0 {
			parts = append(parts, nil)
			number[head] = len(parts)
		}
		part := number[head] - 1
		parts[part] = append(parts[part], place)
	}
	return parts
}
