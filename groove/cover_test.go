package groove_test

import (
	"math"
	"slices"
	"strings"
	"testing"
	"unsafe"

	"groove/api"
	"groove/groove"
)

// coveredAt tells what stands at a place behind covering, by going back from
// it, and not from the first on as the program does.
func coveredAt(samples string, bad []int, place int) byte {
	isGood := func(k int) bool { return k >= 0 && k < len(samples) && !slices.Contains(bad, k) }
	switch {
	case isGood(place):
		return samples[place]
	case isGood(place-1) && isGood(place+1):
		return byte(math.Floor((float64(samples[place-1]) + float64(samples[place+1])) / 2))
	case place > 0:
		return coveredAt(samples, bad, place-1)
	}
	return 0
}

func covered(samples string, bad []int) string {
	var b strings.Builder
	for place := range len(samples) {
		b.WriteByte(coveredAt(samples, bad, place))
	}
	return b.String()
}

func wantCover(t *testing.T, samples string, bad []int, want string) {
	t.Helper()
	if got, e := groove.Cover(samples, bad...); got != want || e != api.OK {
		t.Errorf("P3: Cover(%q, %v) = %q, %d, want %q", samples, bad, got, e, want)
	}
}

func wantCoverRefused(t *testing.T, samples string, bad []int, want api.Errno) {
	t.Helper()
	if got, e := groove.Cover(samples, bad...); got != "" || e != want {
		t.Errorf("P3: Cover of %d samples, %v = %q, %d, want nothing and %d", len(samples), bad, got, e, want)
	}
}

func TestCoverByHand(t *testing.T) {
	for _, c := range []struct {
		samples string
		bad     []int
		want    string
	}{
		{"adz", []int{1}, "amz"},
		{"adz", []int{0}, "\x00dz"},
		{"adz", []int{2}, "add"},
		{"adz", []int{1, 2}, "aaa"},
		{"adz", nil, "adz"},
		{"adz", []int{}, "adz"},
		{"adz", []int{0, 1, 2}, "\x00\x00\x00"},
		{"adz", []int{0, 1}, "\x00\x00z"},
		{"adz", []int{2, 0}, "\x00dd"},
		{"", nil, ""},
		{"a", nil, "a"},
		{"a", []int{0}, "\x00"},
		{"ab", []int{0}, "\x00b"},
		{"ab", []int{1}, "aa"},
		{"ab", []int{0, 1}, "\x00\x00"},
		{"a??z", []int{1, 2}, "aaaz"},
		{"a??z", []int{2, 1}, "aaaz"},
		{"a???z", []int{1, 2, 3}, "aaaaz"},
		{"a?c?e", []int{1, 3}, "abcde"},
		{"a?c?e", []int{3, 1, 3, 3, 1}, "abcde"},
		{"z?a", []int{1}, "zma"},
		{"\xff?\xff", []int{1}, "\xff\xff\xff"},
		{"\xff?\xfe", []int{1}, "\xff\xfe\xfe"},
		{"\xff?\x00", []int{1}, "\xff\x7f\x00"},
		{"\x00?\x01", []int{1}, "\x00\x00\x01"},
		{"\x01?\x00", []int{1}, "\x01\x00\x00"},
		{"\x00\xff\x00", []int{1}, "\x00\x00\x00"},
		{"é", []int{1}, "\xc3\xc3"},
	} {
		wantCover(t, c.samples, c.bad, c.want)
	}
}

// TestCoverEveryChoice: each choice of places, told rising, falling and twice.
func TestCoverEveryChoice(t *testing.T) {
	samples := "\x10\xf3\x00\xff\x81\x24\xc9\x07"
	for length := range len(samples) + 1 {
		for choice := range 1 << length {
			var bad []int
			for place := range length {
				if choice>>place&1 == 1 {
					bad = append(bad, place)
				}
			}
			want := covered(samples[:length], bad)
			wantCover(t, samples[:length], bad, want)
			slices.Reverse(bad)
			wantCover(t, samples[:length], bad, want)
			wantCover(t, samples[:length], slices.Repeat(bad, 2), want)
		}
	}
}

func TestCoverEveryPairOfNeighbours(t *testing.T) {
	for ahead := range 256 {
		for behind := range 256 {
			samples := string([]byte{byte(ahead), 99, byte(behind)})
			want := string([]byte{byte(ahead), byte((ahead + behind) / 2), byte(behind)})
			wantCover(t, samples, []int{1}, want)
		}
	}
}

// manySamples are samples of which no two neighbours are alike.
func manySamples(count int) string {
	samples := make([]byte, count)
	for place := range samples {
		samples[place] = byte(place*83 + 5)
	}
	return string(samples)
}

func TestCoverMostSamples(t *testing.T) {
	samples := manySamples(api.MaxSamples)
	var every, second []int
	for place := range api.MaxSamples {
		wantCover(t, samples, []int{place}, covered(samples, []int{place}))
		every = append(every, place)
		if place%2 == 1 {
			second = append(second, place)
		}
	}
	wantCover(t, samples, nil, samples)
	wantCover(t, samples, every, strings.Repeat("\x00", api.MaxSamples))
	wantCover(t, samples, every[1:], strings.Repeat(samples[:1], api.MaxSamples))
	wantCover(t, samples, second, covered(samples, second))
	wantCover(t, samples, slices.Repeat(every, 100), strings.Repeat("\x00", api.MaxSamples))
}

func TestCoverTooManySamples(t *testing.T) {
	for _, count := range []int{api.MaxSamples + 1, api.MaxSamples + 2, 256, 480, 1 << 16, 1 << 20} {
		samples := manySamples(count)
		wantCoverRefused(t, samples, nil, api.ErrLarge)
		wantCoverRefused(t, samples, []int{0}, api.ErrLarge)
		wantCoverRefused(t, samples, []int{-1}, api.ErrLarge)
		wantCoverRefused(t, samples, []int{count}, api.ErrLarge)
	}
}

// TestCoverCountsBytes: a sample is a byte, whatever letters a text is made of.
func TestCoverCountsBytes(t *testing.T) {
	wantCover(t, strings.Repeat("é", api.MaxSamples/2), nil, strings.Repeat("é", api.MaxSamples/2))
	wantCoverRefused(t, strings.Repeat("é", api.MaxSamples/2+1), nil, api.ErrLarge)
	wantCoverRefused(t, "éé", []int{4}, api.ErrCount)
}

func TestCoverNoPlace(t *testing.T) {
	for _, count := range []int{0, 1, 3, api.MaxSamples - 1, api.MaxSamples} {
		samples := manySamples(count)
		for _, place := range []int{-1, count, count + 1, api.MaxSamples, 256, -256, 1 << 32, math.MaxInt, math.MinInt} {
			wantCoverRefused(t, samples, []int{place}, api.ErrCount)
			if count > 0 {
				wantCoverRefused(t, samples, []int{0, place}, api.ErrCount)
				wantCoverRefused(t, samples, []int{place, 0}, api.ErrCount)
			}
		}
	}
}

func TestCoverLeavesTheListAlone(t *testing.T) {
	list := []int{2, 0, 2, 7, -5}
	kept := slices.Clone(list)
	for length := range len(list) + 1 {
		groove.Cover("adz", list[:length]...)
		if !slices.Equal(list, kept) {
			t.Fatalf("P1: Cover of the first %d left %v of %v", length, list, kept)
		}
	}
}

func TestCoverIsNewMemory(t *testing.T) {
	samples := manySamples(api.MaxSamples)
	for _, bad := range [][]int{nil, {0}, {239}} {
		got, _ := groove.Cover(samples, bad...)
		again, _ := groove.Cover(samples, bad...)
		if unsafe.StringData(got) == unsafe.StringData(samples) || unsafe.StringData(got) == unsafe.StringData(again) {
			t.Errorf("P1: what Cover(.., %v) tells is no new memory", bad)
		}
	}
}

func TestCoverTellsTheSameAgain(t *testing.T) {
	first, _ := groove.Cover("adz", 1)
	groove.Cover("xyz", 0, 1, 2)
	groove.Cover("xyz", 9)
	second, _ := groove.Cover("adz", 1)
	if first != second {
		t.Errorf("P1: Cover(adz, 1) = %q, then %q", first, second)
	}
}
