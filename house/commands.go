package house

import "clavecin/api"

// command is a row of the table of commands.
type command struct {
	name string
	// What the words behind the name must be, and those behind them, which may come any number of times:
	// N stands for a number, W for any word, other words for themselves.
	first, more string
	do          func(*House, args) reply
}

// commands returns the table of commands. (A line that begins with try is none of them.)
func commands() []command {
	return []command{
		{"tone", "W", "", (*House).readTone},
		{"ring", "N N N N N N N", "", (*House).setRing},
		{"weigh", "fifth|third N N", "", (*House).weigh},
		{"temper", "", "", (*House).temper},
		{"steps", "N", "N", (*House).setSteps},
		{"scale", "N N", "", (*House).scale},
		{"beats", "N N", "", (*House).beats},
		{"closes", "N", "", (*House).closes},
		{"gauges", "N", "N", (*House).setGauges},
		{"metal", "N N", "N", (*House).addMetal},
		{"course", "N N N N", "", (*House).addCourse},
		{"string", "N N", "", (*House).chooseStrings},
		{"wire", "N N N", "", (*House).takeWire},
		{"coils", "N", "N", (*House).cutCoils},
		{"jack", "N N", "", (*House).addJack},
		{"quill", "N N", "", (*House).addQuill},
		{"voice", "N N", "", (*House).voice},
		{"tie", "N N N", "", (*House).addTie},
		{"regulate", "N", "", (*House).regulate},
		{"register", "N N N on|off", "", (*House).addRegister},
		{"action", "N N", "", (*House).setAction},
		{"key", "N N", "", (*House).moveKey},
		{"ticks", "N", "", (*House).runTicks},
		{"on", "N", "", (*House).turnOn},
		{"off", "N", "", (*House).turnOff},
		{"state", "N N", "", (*House).tellState},
		{"task", "N N N", "N", (*House).addTask},
		{"plan", "N", "", (*House).plan},
		{"curve", "", "", (*House).tellCurve},
		{"shape", "N N N turn|fixed", "", (*House).addShape},
		{"panel", "N N N", "", (*House).cutPanel},
		{"saw", "N N N", "", (*House).saw},
		{"post", "W W W N", "W W W N", (*House).post},
		{"reverse", "N", "", (*House).reverse},
		{"balance", "W W", "", (*House).tellBalance},
		{"lots", "", "", (*House).tellLots},
		{"book", "", "", (*House).tellBook},
		{"arm", "N", "", (*House).arm},
		{"restart", "N", "", (*House).restart},
		{"clear", "W", "", (*House).remove},
	}
}

// grow adds an element to a list that may have so many at most.
func grow[E any](list *[]E, most int, more E) reply {
	if len(*list) >= most {
		return failure(api.ErrFull)
	}
	*list = append(*list, more)
	return several{}
}

// remove removes a part of the house's state.
func (h *House) remove(a args) reply {
	switch a.words[0] {
	case "ring":
		h.ring, h.steps = api.Ring{}, nil
	case "strings":
		h.gauges, h.metals, h.courses = nil, nil, nil
	case "jacks":
		h.jacks, h.quills = nil, nil
	case "ties":
		h.ties = nil
	case "action":
		h.registers, h.machine = nil, nil
	case "tasks":
		h.tasks = nil
	case "shapes":
		h.shapes = nil
	default:
		return failure(api.ErrForm)
	}
	return several{}
}
