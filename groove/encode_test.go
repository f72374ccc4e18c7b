package groove_test

import (
	"math"
	"runtime"
	"strings"
	"sync"
	"testing"
	"unsafe"

	"groove/api"
	"groove/groove"
)

const (
	markBits  = "1" + "0000" + "0000" + "0000" + "0000" + "0" + "1" + "0"
	frameBits = 124
)

// sampleAt tells a sample, or the nought that stands where there is none.
func sampleAt(samples string, place int) byte {
	if place < len(samples) {
		return samples[place]
	}
	return 0
}

// symbolOf tells a row's symbol.
func symbolOf(samples string, row, j int) byte {
	if j < 6 {
		return sampleAt(samples, 6*row+j)
	}
	check := byte(0)
	for k := range 6 {
		check ^= sampleAt(samples, 6*row+k)
	}
	return check
}

// trackByFrames asks of each frame which row each of its symbols is of, where
// the program asks of each row where its symbols go.
func trackByFrames(words []string, samples string, depth int) string {
	rowCount := int(math.Ceil(float64(len(samples)) / 6))
	if rowCount == 0 {
		return ""
	}
	var track strings.Builder
	for number := range rowCount + 6*depth {
		track.WriteString(markBits + words[number%256] + "0")
		for j := range 7 {
			symbol := byte(0)
			if row := number - depth*j; row >= 0 && row < rowCount {
				symbol = symbolOf(samples, row, j)
			}
			track.WriteString(words[symbol] + "0")
		}
	}
	return track.String()
}

func wantTrack(t *testing.T, samples string, depth int, want string) {
	t.Helper()
	got, e := groove.Encode(samples, depth)
	if e != api.OK {
		t.Errorf("P4: Encode(%q, %d) is refused with %d", samples, depth, e)
	}
	if got != want {
		t.Errorf("P4: Encode(%q, %d) = %s, want %s", samples, depth, got, want)
	}
}

func wantEncodeRefused(t *testing.T, samples string, depth int, want api.Errno) {
	t.Helper()
	if got, e := groove.Encode(samples, depth); got != "" || e != want {
		t.Errorf("P4: Encode of %d samples, %d = %d bits, %d, want none and %d", len(samples), depth, len(got), e, want)
	}
}

// TestEncodeByHand writes out a whole track, its words taken from the list of
// all texts by eye.
func TestEncodeByHand(t *testing.T) {
	const (
		zero  = "000000010000" + "0"
		one   = "000000010001" + "0"
		two   = "000000010010" + "0"
		three = "000000010100" + "0"
		four  = "000000010101" + "0"
		five  = "000000100000" + "0"
		six   = "000000100001" + "0"
	)
	wantTrack(t, "\x01\x00\x02\x00\x00\x05", 1, ""+
		markBits+zero+one+zero+zero+zero+zero+zero+zero+
		markBits+one+zero+zero+zero+zero+zero+zero+zero+
		markBits+two+zero+zero+two+zero+zero+zero+zero+
		markBits+three+zero+zero+zero+zero+zero+zero+zero+
		markBits+four+zero+zero+zero+zero+zero+zero+zero+
		markBits+five+zero+zero+zero+zero+zero+five+zero+
		markBits+six+zero+zero+zero+zero+zero+zero+six)
}

func TestEncodeNoSamples(t *testing.T) {
	for depth := 1; depth <= api.MaxDepth; depth++ {
		wantTrack(t, "", depth, "")
	}
}

// TestEncodeEveryLength: full rows and such as noughts fill up, by each depth.
func TestEncodeEveryLength(t *testing.T) {
	words := wordsByText()
	for count := range api.MaxSamples + 1 {
		samples := manySamples(count)
		for depth := 1; depth <= api.MaxDepth; depth++ {
			wantTrack(t, samples, depth, trackByFrames(words, samples, depth))
		}
	}
}

func TestEncodeEveryByte(t *testing.T) {
	words := wordsByText()
	for b := range 256 {
		for place := range 8 {
			one := make([]byte, 8)
			one[place] = byte(b)
			wantTrack(t, string(one), 3, trackByFrames(words, string(one), 3))
		}
		alike := strings.Repeat(string([]byte{byte(b)}), 13)
		wantTrack(t, alike, 2, trackByFrames(words, alike, 2))
	}
}

// TestEncodeNoughtsAtTheEnd: a last row that noughts fill up is the one that
// has them as samples.
func TestEncodeNoughtsAtTheEnd(t *testing.T) {
	for count := 1; count <= 12; count++ {
		samples := manySamples(count)
		full := samples + strings.Repeat("\x00", (12-count)%6)
		for depth := 1; depth <= api.MaxDepth; depth++ {
			want, _ := groove.Encode(full, depth)
			wantTrack(t, samples, depth, want)
		}
	}
}

func TestEncodeHowManyBits(t *testing.T) {
	for _, c := range []struct{ count, depth, frames int }{
		{0, 1, 0}, {0, api.MaxDepth, 0},
		{1, 1, 7}, {6, 1, 7}, {7, 1, 8}, {12, 1, 8}, {13, 1, 9},
		{1, 2, 13}, {1, 3, 19},
		{1, api.MaxDepth, 25}, {6, api.MaxDepth, 25}, {7, api.MaxDepth, 26},
		{239, 1, 46}, {api.MaxSamples, 1, 46},
		{234, api.MaxDepth, 63}, {235, api.MaxDepth, 64}, {api.MaxSamples, api.MaxDepth, 64},
	} {
		got, e := groove.Encode(manySamples(c.count), c.depth)
		if len(got) != c.frames*frameBits || e != api.OK {
			t.Errorf("P4: Encode of %d samples, %d: %d bits, %d, want %d frames", c.count, c.depth, len(got), e, c.frames)
		}
	}
}

// TestEncodeSymbolsOfNoRow: one row of ones by the greatest depth leaves all
// but seven places to noughts.
func TestEncodeSymbolsOfNoRow(t *testing.T) {
	words := wordsByText()
	got, _ := groove.Encode("\xff\xff\xff\xff\xff\x0f", api.MaxDepth)
	if len(got) != 25*frameBits {
		t.Fatalf("P4: %d bits, want 25 frames", len(got))
	}
	want := map[[2]int]byte{{0, 0}: 255, {4, 1}: 255, {8, 2}: 255, {12, 3}: 255, {16, 4}: 255, {20, 5}: 15, {24, 6}: 240}
	for number := range 25 {
		for j := range 7 {
			from := number*frameBits + 20 + 13*(j+1)
			word := words[want[[2]int{number, j}]] + "0"
			if got[from:from+13] != word {
				t.Errorf("P4: symbol %d of frame %d is %s, want %s", j, number, got[from:from+13], word)
			}
		}
	}
}

func TestEncodeMarksStandNowhereElse(t *testing.T) {
	for depth := 1; depth <= api.MaxDepth; depth++ {
		for step := range 256 {
			samples := make([]byte, api.MaxSamples)
			for place := range samples {
				samples[place] = byte(place * step)
			}
			track, _ := groove.Encode(string(samples), depth)
			for place := range len(track) - len(markBits) {
				if strings.HasPrefix(track[place:], markBits) != (place%frameBits == 0) {
					t.Fatalf("P4: depth %d, step %d: a mark at bit %d, or none", depth, step, place)
				}
			}
		}
	}
}

func TestEncodeTooManySamples(t *testing.T) {
	for _, count := range []int{api.MaxSamples + 1, api.MaxSamples + 2, 256, 480, 1 << 16, 1 << 20} {
		for _, depth := range []int{1, api.MaxDepth, 0, -1, api.MaxDepth + 1, math.MaxInt, math.MinInt} {
			wantEncodeRefused(t, manySamples(count), depth, api.ErrLarge)
		}
	}
}

func TestEncodeCountsBytes(t *testing.T) {
	most := strings.Repeat("é", api.MaxSamples/2)
	wantTrack(t, most, 1, trackByFrames(wordsByText(), most, 1))
	wantEncodeRefused(t, most+"é", 1, api.ErrLarge)
}

func TestEncodeNoDepth(t *testing.T) {
	for _, count := range []int{0, 1, 6, 7, api.MaxSamples} {
		for _, depth := range []int{0, -1, -4, api.MaxDepth + 1, 256, 257, 1 << 32, 1<<32 + 1, math.MaxInt, math.MinInt, math.MinInt + 1} {
			wantEncodeRefused(t, manySamples(count), depth, api.ErrDepth)
		}
	}
}

func TestEncodeIsNewMemory(t *testing.T) {
	samples := manySamples(api.MaxSamples)
	first, _ := groove.Encode(samples, 1)
	second, _ := groove.Encode(samples, 1)
	if unsafe.StringData(first) == unsafe.StringData(second) {
		t.Error("P1: Encode tells the same memory twice")
	}
}

// TestEncodeTellsTheSameAgain: nothing of one call is left to the next.
func TestEncodeTellsTheSameAgain(t *testing.T) {
	first, _ := groove.Encode("adz", 2)
	groove.Encode(manySamples(api.MaxSamples), api.MaxDepth)
	groove.Encode(manySamples(api.MaxSamples+1), 2)
	groove.Encode("adz", 0)
	wantTrack(t, "adz", 2, first)
}

func TestEncodeFromManyGoroutines(t *testing.T) {
	words := wordsByText()
	var all sync.WaitGroup
	for worker := range 8 {
		all.Go(func() {
			samples, depth := manySamples(30*worker), 1+worker%api.MaxDepth
			for range 20 {
				wantTrack(t, samples, depth, trackByFrames(words, samples, depth))
			}
		})
	}
	all.Wait()
}

func TestEncodeLeavesNoGoroutine(t *testing.T) {
	ahead := runtime.NumGoroutine()
	for range 100 {
		groove.Encode(manySamples(api.MaxSamples), api.MaxDepth)
	}
	if behind := runtime.NumGoroutine(); behind > ahead {
		t.Errorf("P1: %d goroutines are left", behind-ahead)
	}
}
