// Package groove: samples in a track of bits that may be scratched: see DOC.md.
package groove

import (
	"groove/api"
	"groove/covering"
	"groove/frames"
	"groove/rows"
	"groove/words"
)

// Word tells a byte's word (P2).
func Word(b int) (string, api.Errno) {
	word, ok := words.Text(b)
	if !ok {
		return "", api.ErrWord
	}
	return word, api.OK
}

// Byte tells a word's byte (P2).
func Byte(word string) (int, api.Errno) {
	b, ok := words.Byte(word)
	if !ok {
		return 0, api.ErrWord
	}
	return b, api.OK
}

// Cover covers samples that are bad (P3).
func Cover(samples string, bad ...int) (string, api.Errno) {
	if len(samples) > api.MaxSamples {
		return "", api.ErrLarge
	}
	marks, ok := covering.Mark(len(samples), bad)
	if !ok {
		return "", api.ErrCount
	}
	return covering.Cover(samples, marks), api.OK
}

// Encode writes samples into a track (P4).
func Encode(samples string, depth int) (string, api.Errno) {
	if len(samples) > api.MaxSamples {
		return "", api.ErrLarge
	}
	if depth < 1 || depth > api.MaxDepth {
		return "", api.ErrDepth
	}
	return frames.Track(frames.Lay(rows.Cut(samples), depth)), api.OK
}

// Decode reads samples from a track (P5).
func Decode(bits string, count int, depth int) (api.Track, api.Errno) { return api.Track{}, api.OK }
