package frames

import (
	"slices"
	"strings"
	"testing"

	"groove/rows"
	"groove/words"
)

func known(b byte) words.Found {
	return words.Found{Byte: b, Known: true}
}

// asFound is a frame of which nothing is lost.
func asFound(frame Frame) Found {
	all := Found{Number: known(frame.Number)}
	for j, symbol := range frame.Symbols {
		all.Symbols[j] = known(symbol)
	}
	return all
}

// numbered are frames of which each tells its number, or, told -1, has lost it.
// Their places stand in their symbols.
func numbered(numbers ...int) []Found {
	var all []Found
	for place, number := range numbers {
		frame := asFound(Frame{Number: byte(number), Symbols: [7]byte{byte(place)}})
		if number < 0 {
			frame.Number = words.Found{}
		}
		all = append(all, frame)
	}
	return all
}

func find(bits string) []Found {
	found := make(chan Found)
	go Find(bits, found)
	var all []Found
	for frame := range found {
		all = append(all, frame)
	}
	return all
}

func gather(frames []Found, wanted int) Gathered {
	found := make(chan Found, len(frames))
	for _, frame := range frames {
		found <- frame
	}
	close(found)
	return Gather(found, wanted)
}

func TestFind(t *testing.T) {
	one := Frame{1, [7]byte{10, 20, 30, 40, 50, 60, 70}}
	two := Frame{200, [7]byte{255, 0, 255, 0, 255, 0, 255}}
	bits := Track([]Frame{one, two})
	first, second := bits[:size], bits[size:]
	both := []Found{asFound(one), asFound(two)}
	for _, c := range []struct {
		what, bits string
		want       []Found
	}{
		{"no bits", "", nil},
		{"a mark alone", mark, nil},
		{"noughts", strings.Repeat("0", 500), nil},
		{"two frames", bits, both},
		{"noughts everywhere", "000" + first + "0000000" + second + "0", both},
		{"a bit less", bits[:len(bits)-1], both[:1]},
		{"without the first bit", bits[1:], both[1:]},
		{"half a frame ahead", first[size/2:] + bits, both},
		{"a frame cut off at its end", first[:size-1], nil},
		{"no word of a byte", mark + strings.Repeat("1", 104), []Found{{}}},
	} {
		if got := find(c.bits); !slices.Equal(got, c.want) {
			t.Errorf("P5: %s: %v, want %v", c.what, got, c.want)
		}
	}
}

// TestFindGoesOnBehindAFrame: a mark within a frame that was read is none.
func TestFindGoesOnBehindAFrame(t *testing.T) {
	whole := Track([]Frame{{Number: 7}})
	want := asFound(Frame{Number: 7})
	if got := find(mark + "0000" + whole + whole); len(got) != 2 || got[0] == want || got[1] != want {
		t.Errorf("P5: %v, want a scratched frame and %v", got, want)
	}
}

// TestFindDoesNotLookBehindWords: the bit behind each word may be any.
func TestFindDoesNotLookBehindWords(t *testing.T) {
	frame := Frame{9, [7]byte{1, 2, 3, 4, 5, 6, 7}}
	bits := []byte(Track([]Frame{frame}))
	for place := range wordsInAll {
		bits[20+13*place+12] = '1'
	}
	if got := find(string(bits)); !slices.Equal(got, []Found{asFound(frame)}) {
		t.Errorf("P5: %v, want %v", got, frame)
	}
}

func TestGatherNumbers(t *testing.T) {
	for _, c := range []struct {
		what    string
		numbers []int
		want    []int
	}{
		{"none", nil, nil},
		{"in order", []int{0, 1, 2}, []int{0, 1, 2}},
		{"behind gaps", []int{3, 10, 255}, []int{3, 10, 255}},
		{"past 255", []int{254, 255, 0, 1}, []int{254, 255, 256, 257}},
		{"a gap past 255", []int{250, 10, 5}, []int{250, 266, 517}},
		{"the same again", []int{5, 5, 5}, []int{5, 261, 517}},
		{"one less", []int{5, 4}, []int{5, 260}},
		{"the first lost", []int{-1, 1}, []int{0, 1}},
		{"the first lost, a gap", []int{-1, 0}, []int{0, 256}},
		{"lost between", []int{5, -1, 9, -1, -1}, []int{5, 6, 9, 10, 11}},
		{"lost, then the same", []int{5, -1, 6}, []int{5, 6, 262}},
		{"lost past 255", []int{255, -1, 1}, []int{255, 256, 257}},
		{"all lost", []int{-1, -1, -1}, []int{0, 1, 2}},
	} {
		frames := numbered(c.numbers...)
		want := make([]Found, 600)
		for place, number := range c.want {
			want[number] = frames[place]
		}
		got := gather(frames, 600)
		if got.Count != len(frames) || !slices.Equal(got.Wanted, want) {
			t.Errorf("P5: %s: frames %v are not numbered %v", c.what, c.numbers, c.want)
		}
	}
}

func TestGatherNotWanted(t *testing.T) {
	frames := numbered(0, 6, 7, 8, 0)
	for wanted := range 300 {
		got := gather(frames, wanted)
		want := make([]Found, 300)
		for place, number := range []int{0, 6, 7, 8, 256} {
			want[number] = frames[place]
		}
		if got.Count != len(frames) || !slices.Equal(got.Wanted, want[:wanted]) {
			t.Errorf("P5: %d wanted: %d found, %v", wanted, got.Count, got.Wanted)
		}
	}
}

func TestLift(t *testing.T) {
	for depth := 1; depth <= 4; depth++ {
		for rowCount := range 41 {
			all := make([]rows.Row, rowCount)
			want := make([]rows.Found, rowCount)
			for r := range all {
				for j := range all[r] {
					all[r][j] = byte(7*r + j)
					want[r][j] = known(byte(7*r + j))
				}
			}
			var frames []Found
			for _, frame := range Lay(all, depth) {
				frames = append(frames, asFound(frame))
			}
			if got := Lift(frames, rowCount, depth); !slices.Equal(got, want) {
				t.Errorf("P5: depth %d: %v, want %v", depth, got, want)
			}
		}
	}
}
