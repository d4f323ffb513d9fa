package graph

// mayBe tells whether needs are ones that may be.
func mayBe(needs [][]int) bool {
	if len(needs) > MaxThings {
		return false
	}
	count := 0
	for _, list := range needs {
		// Lists that are too long are not gone through.
		if len(list) > maxNeeds-count {
			return false
		}
		count += len(list)
		for _, k := range list {
			if !isThing(needs, k) {
				return false
			}
		}
	}
	return true
}

// isThing tells whether i is a thing's number.
func isThing(needs [][]int, i int) bool { return 0 <= i && i < len(needs) }

// needers are, for each thing, those that need it, each as often as it does.
func needers(needs [][]int) [][]int {
	lists := make([][]int, len(needs))
	for i, list := range needs {
		for _, k := range list {
			lists[k] = append(lists[k], i)
		}
	}
	return lists
}

// reach are all things that one comes to from a thing, by one step or by several; they rise.
func reach(steps [][]int, from int) []int {
	reached := make([]bool, len(steps))
	left := []int{from}
	for len(left) > 0 {
		var next []int
		left, next = cutOff(left)
		for _, i := range next {
			for _, k := range steps[i] {
				if !reached[k] {
					reached[k] = true
					left = append(left, k)
				}
			}
		}
	}
	return places(reached)
}

// cutOff cuts the end of a list off, half of it, so that room for what is put behind the rest costs no more than was cut off. The rest is cut with its room: what is put there must not come to stand in what was cut off.
func cutOff(list []int) (rest, end []int) {
	at := len(list) / 2
	return list[:at:at], list[at:]
}

// places are those places of a list at which it says yes.
func places(list []bool) []int {
	var all []int
	for i, is := range list {
		if is {
			all = append(all, i)
		}
	}
	return all
}
