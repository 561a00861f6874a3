// Package logs: batches of samples as the frames of a log.
package logs

import (
	"strconv"

	"silo/api"
	"silo/codes"
	"silo/sets"
)

// mark begins a frame, letter the name of a log.
const (
	mark   = "F"
	letter = "w"
)

// Name is the name of the log of this number.
func Name(number int) string { return letter + strconv.Itoa(number) }

// Fits tells whether samples may be a batch.
func Fits(batch []api.Sample) bool {
	return 1 <= len(batch) && len(batch) <= api.MaxBatch && sets.Fits(batch)
}

// Frame is a batch as a frame. The batch must fit.
func Frame(batch []api.Sample) string {
	payload := encoded(batch)
	frame := codes.Append([]byte(mark), uint64(len(payload)))
	return codes.Sealed(string(append(frame, payload...)))
}

func encoded(batch []api.Sample) []byte {
	var payload []byte
	for _, sample := range batch {
		payload = codes.Append(payload, uint64(sample.Series))
		payload = codes.Append(payload, codes.FromSigned(sample.Time))
		payload = codes.Append(payload, sample.Value)
	}
	return payload
}
