// Package groove: samples in a track of bits that may be scratched: see DOC.md.
package groove

import (
	"strings"

	"groove/api"
	"groove/covering"
	"groove/frames"
	"groove/reading"
	"groove/rows"
	"groove/words"
)

// Word tells a byte's word (P2).
func Word(b int) (string, api.Errno) {
	word, ok := words.Text(b)
	if !ok {
		return "", api.ErrWord
	}
	return word, api.OK
}

// Byte tells a word's byte (P2).
func Byte(word string) (int, api.Errno) {
	b, ok := words.Byte(word)
	if !ok {
		return 0, api.ErrWord
	}
	return b, api.OK
}

// Cover covers samples that are bad (P3).
func Cover(samples string, bad ...int) (string, api.Errno) {
	if len(samples) > api.MaxSamples {
		return "", api.ErrLarge
	}
	marks, ok := covering.Mark(len(samples), bad)
	if !ok {
		return "", api.ErrCount
	}
	return covering.Cover(samples, marks), api.OK
}

// Encode writes samples into a track (P4).
func Encode(samples string, depth int) (string, api.Errno) {
	if len(samples) > api.MaxSamples {
		return "", api.ErrLarge
	}
	if !isDepth(depth) {
		return "", api.ErrDepth
	}
	return frames.Track(frames.Lay(rows.Cut(samples), depth)), api.OK
}

// Decode reads samples from a track (P5).
func Decode(bits string, count int, depth int) (api.Track, api.Errno) {
	if len(bits) > api.MaxBits || hasOtherLetters(bits) {
		return api.Track{}, api.ErrBits
	}
	if count < 0 || count > api.MaxSamples {
		return api.Track{}, api.ErrCount
	}
	if !isDepth(depth) {
		return api.Track{}, api.ErrDepth
	}
	return reading.Track(bits, count, depth), api.OK
}

func isDepth(depth int) bool {
	return depth >= 1 && depth <= api.MaxDepth
}

func hasOtherLetters(bits string) bool {
	return strings.Trim(bits, "01") != ""
}
