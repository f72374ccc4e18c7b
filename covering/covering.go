// Package covering: bad samples covered by what is beside them.
package covering

// Mark tells of each of count places whether the list names it, and whether
// the list names no other.
func Mark(count int, places []int) ([]bool, bool) {
	marks := make([]bool, count)
	for _, place := range places {
		if place < 0 || place >= count {
			return nil, false
		}
		marks[place] = true
	}
	return marks, true
}

// Places tells the places that are marked, rising.
func Places(marks []bool) []int {
	var places []int
	for place, marked := range marks {
		if marked {
			places = append(places, place)
		}
	}
	return places
}

// Cover tells the samples, those that are bad covered. There is a mark for
// each sample.
func Cover(samples string, bad []bool) string {
	covered := []byte(samples)
	for place := range covered {
		if bad[place] {
			covered[place] = cover(covered, bad, place)
		}
	}
	return string(covered)
}

// A sample that was covered stays bad: it is no ground for half a sum, but it
// is what the next one falls back on.
func cover(samples []byte, bad []bool, place int) byte {
	if place == 0 {
		return 0
	}
	ahead, behind := place-1, place+1
	if bad[ahead] || behind == len(samples) || bad[behind] {
		return samples[ahead]
	}
	return byte((int(samples[ahead]) + int(samples[behind])) / 2)
}
