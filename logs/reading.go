package logs

import (
	"iter"
	"strings"

	"silo/api"
	"silo/codes"
)

// FromName is the number of the log that has this name.
func FromName(name string) (int, bool) {
	number, lettered := strings.CutPrefix(name, letter)
	if !lettered {
		return 0, false
	}
	return codes.Decimal(number, api.MaxNumber)
}

// Read reads a log: its samples, frame by frame, and how many bytes the frames
// have; false, if a right frame has a payload that is none.
func Read(log string) (samples []api.Sample, size int, ok bool) {
	for payload, end := range frames(log) {
		batch, ok := decoded(payload)
		if !ok {
			return nil, 0, false
		}
		samples = append(samples, batch...)
		size = end
	}
	return samples, size, true
}

// frames goes through the payloads of the right frames from the beginning on,
// and tells where each frame ends.
func frames(log string) iter.Seq2[string, int] {
	return func(yield func(string, int) bool) {
		end := 0
		for {
			payload, size, ok := firstFrame(log[end:])
			if !ok {
				return
			}
			end += size
			if !yield(payload, end) {
				return
			}
		}
	}
}

// firstFrame reads the frame at the beginning of data: its payload, and how
// many bytes it has; false, unless there is a whole one with a right hash.
func firstFrame(data string) (payload string, size int, ok bool) {
	body, marked := strings.CutPrefix(data, mark)
	if !marked {
		return "", 0, false
	}
	r := codes.NewReader(body)
	payload = r.Bytes(r.Code())
	r.Bytes(codes.HashSize)
	if r.Failed() {
		return "", 0, false
	}
	size = len(data) - r.Left()
	_, ok = codes.Unsealed(data[:size])
	return payload, size, ok
}

// decoded reads a payload; false, unless it is just a batch.
func decoded(payload string) ([]api.Sample, bool) {
	var batch []api.Sample
	r := codes.NewReader(payload)
	for r.Left() > 0 && len(batch) < api.MaxBatch {
		series := r.Code()
		time := r.Code()
		value := r.Code()
		batch = append(batch, api.Sample{Series: int(series), Time: codes.ToSigned(time), Value: value})
	}
	if !r.Done() || !Fits(batch) {
		return nil, false
	}
	return batch, true
}
