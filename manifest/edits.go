package manifest

import (
	"iter"

	"bootprint/api"
	"bootprint/frame"
	"bootprint/version"
)

// editKind is the Kind of a frame that has an edit's bytes.
const editKind = 5

// framed answers the frame of an edit, as bytes.
func framed(e api.Edit) ([]byte, api.Errno) {
	body, err := version.Append(nil, e)
	if err != api.OK {
		return nil, err
	}
	return frame.Append(nil, api.Frame{Kind: editKind, Body: body})
}

// unframed answers the edit that a frame has.
func unframed(f api.Frame) (api.Edit, api.Errno) {
	if f.Kind != editKind {
		return api.Edit{}, api.ErrBad
	}
	return version.Parse(f.Body)
}

// editsOf tells the edits that frames have, in order, each with the error that
// it could not be read by.
func editsOf(frames []api.Frame) iter.Seq2[api.Edit, api.Errno] {
	return func(yield func(api.Edit, api.Errno) bool) {
		for _, f := range frames {
			if !yield(unframed(f)) {
				return
			}
		}
	}
}

// fold answers what edits make of v, one after the other; the error of the
// first one that can't be read, or applied.
func fold(v api.Version, edits iter.Seq2[api.Edit, api.Errno]) (api.Version, api.Errno) {
	for e, err := range edits {
		if err == api.OK {
			v, err = version.Apply(v, e)
		}
		if err != api.OK {
			return api.Version{}, err
		}
	}
	return v, api.OK
}
