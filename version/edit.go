package version

import (
	"bootprint/api"
)

// option is something of an edit that is being made.
type option func(*api.Edit)

// editOf makes an edit of options, in their order. It keeps what they have.
func editOf(options ...option) api.Edit {
	var e api.Edit
	for _, put := range options {
		put(&e)
	}
	return e
}

func numbered(next, seq, log uint64) option {
	return func(e *api.Edit) {
		e.Next, e.Seq, e.Log = next, seq, log
	}
}

func dropping(level int, number uint64) option {
	return func(e *api.Edit) {
		e.Drops = append(e.Drops, api.Drop{Level: level, Number: number})
	}
}

func adding(level int, files ...api.File) option {
	return func(e *api.Edit) {
		for _, f := range files {
			e.Adds = append(e.Adds, api.Add{Level: level, File: f})
		}
	}
}
