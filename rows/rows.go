// Package rows: samples cut into rows, each with a check, and rows that were
// found in a track.
package rows

import "groove/api"

const (
	// Symbols is how many symbols a row has: its samples and their check.
	Symbols = api.RowSize + 1

	check = api.RowSize // the place of the check in a row
)

// A Row is its symbols, the check behind the samples.
type Row [Symbols]byte

// Cut tells the rows that the samples are cut into.
func Cut(samples string) []Row {
	all := make([]Row, Count(len(samples)))
	for place := range len(samples) {
		row := &all[place/api.RowSize]
		row[place%api.RowSize] = samples[place]
		// The noughts that fill up the last row change no check, so
		// that it is whole without them.
		row[check] ^= samples[place]
	}
	return all
}

// Count tells how many rows it takes to hold samples.
func Count(samples int) int {
	return (samples + api.RowSize - 1) / api.RowSize
}
