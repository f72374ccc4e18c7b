package groove_test

import (
	"math/rand"
	"regexp"
	"strings"
	"testing"

	"groove/api"
	"groove/groove"
)

// One match behind the other, from the first on: so a track is gone through.
var frameForm = regexp.MustCompile("10{17}10[01]{104}")

// lost stands for a symbol, or a number, that no word tells.
const lost = -1

// reader reads tracks by searching and by counting, so that it shares nothing
// with the way the program reads them.
type reader struct {
	bytes map[string]int // by word
}

func newReader() reader {
	bytes := map[string]int{}
	for b, word := range wordsByText()[:256] {
		bytes[word] = b
	}
	return reader{bytes}
}

func (r reader) byteAt(frame string, word int) int {
	from := len(markBits) + 13*word
	if b, ok := r.bytes[frame[from:from+12]]; ok {
		return b
	}
	return lost
}

// symbolsIn tells each symbol that a track tells, by the number of its frame
// and by its own, and how many frames were read.
func (r reader) symbolsIn(bits string) (map[[2]int]int, int) {
	symbols := map[[2]int]int{}
	found := frameForm.FindAllString(bits, -1)
	number := -1
	for _, frame := range found {
		number++
		if b := r.byteAt(frame, 0); b != lost {
			for number%256 != b {
				number++
			}
		}
		for j := range 7 {
			if b := r.byteAt(frame, 1+j); b != lost {
				symbols[[2]int{number, j}] = b
			}
		}
	}
	return symbols, len(found)
}

// read tells the track, each row by itself.
func (r reader) read(bits string, count, depth int) api.Track {
	symbols, frameCount := r.symbolsIn(bits)
	track := api.Track{Frames: frameCount}
	var samples []byte
	var bad []int
	for row := 0; 6*row < count; row++ {
		var values [7]byte
		var unknown []int
		all := byte(0)
		for j := range 7 {
			b, ok := symbols[[2]int{row + depth*j, j}]
			if !ok {
				unknown = append(unknown, j)
			}
			values[j] = byte(b)
			all ^= byte(b)
		}
		switch {
		case len(unknown) == 1:
			values[unknown[0]] = all
			track.Restored++
		case len(unknown) == 0 && all != 0:
			bad = append(bad, rising(6*row, 6*row+6)...)
		}
		for _, j := range unknown {
			if len(unknown) > 1 && j < 6 {
				bad = append(bad, 6*row+j)
			}
		}
		samples = append(samples, values[:6]...)
	}
	track.Samples = covered(string(samples), bad)[:count]
	for _, place := range bad {
		if place < count {
			track.Bad = append(track.Bad, place)
		}
	}
	return track
}

func (r reader) wantSame(t *testing.T, what, bits string, count, depth int) {
	t.Helper()
	wantDecoded(t, what, bits, count, depth, r.read(bits, count, depth))
}

// TestDecodeWhatWasEncoded: each length by each depth, none bad, none restored.
func TestDecodeWhatWasEncoded(t *testing.T) {
	for count := range api.MaxSamples + 1 {
		samples := manySamples(count)
		for depth := 1; depth <= api.MaxDepth; depth++ {
			track := trackOf(t, samples, depth)
			got, e := groove.Decode(track, count, depth)
			if want := (api.Track{Samples: samples, Frames: len(track) / frameBits}); e != api.OK || !sameTrack(got, want) {
				t.Errorf("P6: %d samples by depth %d come back as %s, %d", count, depth, tell(got), e)
			}
		}
	}
}

func TestDecodeEveryByteThatWasEncoded(t *testing.T) {
	for b := range 256 {
		samples := strings.Repeat(string([]byte{byte(b)}), 7)
		got, e := groove.Decode(trackOf(t, samples, 1), 7, 1)
		if want := (api.Track{Samples: samples, Frames: 8}); e != api.OK || !sameTrack(got, want) {
			t.Errorf("P6: seven bytes %d come back as %s, %d", b, tell(got), e)
		}
	}
}

// TestDecodeScratches: up to depth frames one behind the other, at each place,
// taken out or made 0.
func TestDecodeScratches(t *testing.T) {
	r := newReader()
	for _, count := range []int{1, 5, 6, 7, 12, 13, 60, 239, api.MaxSamples} {
		samples := manySamples(count)
		for depth := 1; depth <= api.MaxDepth; depth++ {
			track := trackOf(t, samples, depth)
			for much := 1; much <= depth; much++ {
				for from := 0; from+much*frameBits <= len(track); from += frameBits {
					ahead, behind := track[:from], track[from+much*frameBits:]
					wantAllBack(t, r, ahead+behind, samples, depth)
					wantAllBack(t, r, ahead+noughts(much*frameBits)+behind, samples, depth)
				}
			}
		}
	}
}

func wantAllBack(t *testing.T, r reader, bits, samples string, depth int) {
	t.Helper()
	got, e := groove.Decode(bits, len(samples), depth)
	if e != api.OK || got.Samples != samples || len(got.Bad) != 0 {
		t.Errorf("P6: %d samples by depth %d come back as %s, %d", len(samples), depth, tell(got), e)
	}
	if want := r.read(bits, len(samples), depth); !sameTrack(got, want) {
		t.Errorf("P5: %d samples by depth %d: %s, want %s", len(samples), depth, tell(got), tell(want))
	}
}

// TestDecodeDeepScratches: more frames than depth, so that samples are bad.
func TestDecodeDeepScratches(t *testing.T) {
	r := newReader()
	for _, count := range []int{6, 13, 100} {
		for depth := 1; depth <= api.MaxDepth; depth++ {
			track := trackOf(t, manySamples(count), depth)
			for much := depth + 1; much <= 3*depth; much++ {
				for from := 0; from+much*frameBits <= len(track); from += frameBits {
					r.wantSame(t, "a deep scratch", track[:from]+track[from+much*frameBits:], count, depth)
				}
			}
		}
	}
}

// TestDecodeEveryBitTurned: each bit of a track, by itself.
func TestDecodeEveryBitTurned(t *testing.T) {
	r := newReader()
	track := trackOf(t, "abcdefgh", 1)
	for place := range len(track) {
		bits := []byte(track)
		bits[place] ^= '0' ^ '1'
		r.wantSame(t, "a bit turned", string(bits), 8, 1)
		r.wantSame(t, "a bit taken out", track[:place]+track[place+1:], 8, 1)
		r.wantSame(t, "cut off", track[:place], 8, 1)
		r.wantSame(t, "begun late", track[place:], 8, 1)
	}
}

// scratch does one harm to a track.
func scratch(source *rand.Rand, words []string, track string) string {
	from := source.Intn(len(track) + 1)
	to := min(len(track), from+source.Intn(300))
	frame := from / frameBits * frameBits
	switch source.Intn(8) {
	case 0:
		return track[:from] + track[to:]
	case 1:
		return track[:from] + noughts(to-from) + track[to:]
	case 2:
		return track[:from] + noughts(source.Intn(40)) + track[from:]
	case 3:
		return track[:from] + track[from:to] + track[from:]
	case 4:
		return track[:frame] + track[min(len(track), frame+frameBits*source.Intn(6)):]
	case 5:
		return track[to:] + track[:from]
	}
	// Most words are those of bytes, so that checks are wrong and numbers
	// go astray.
	word := words[source.Intn(len(words))]
	at := frame + len(markBits) + 13*source.Intn(8)
	if at+len(word) > len(track) {
		return track + markBits
	}
	return track[:at] + word + track[at+len(word):]
}

func TestDecodeManyScratches(t *testing.T) {
	r := newReader()
	words := wordsByText()
	source := rand.New(rand.NewSource(1))
	for range 2000 {
		depth := 1 + source.Intn(api.MaxDepth)
		samples := make([]byte, source.Intn(api.MaxSamples+1))
		source.Read(samples)
		track := trackOf(t, string(samples), depth)
		for range source.Intn(12) {
			track = scratch(source, words, track)
		}
		count := len(samples)
		if source.Intn(4) == 0 {
			count, depth = source.Intn(api.MaxSamples+1), 1+source.Intn(api.MaxDepth)
		}
		if len(track) > api.MaxBits {
			wantDecodeRefused(t, track, count, depth, api.ErrBits)
			continue
		}
		r.wantSame(t, "scratched", track, count, depth)
	}
}
