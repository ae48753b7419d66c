"""The blocks Text and Field (points 133 to 136)."""

from stillroom.flow import break_lines
from stillroom.fonts import advance, lookup
from stillroom.marks import moved_right, plate
from stillroom.outlines import move, scale
from stillroom.runes import runes

_SPACE = 32
_NO_BACK = -1


def lay_text(layout, block, across, y):
    """The tuple (marks, end) of a Text that begins at the height y, in a column that
    goes across from its first number to its second one."""
    style = layout.style(block)
    font = layout.font(style[0])
    return _put_runs(layout, _runs_of(layout, block, style[2]), (style, font), across, y)


def lay_field(layout, block, across, y):
    """The same for a Field."""
    layout.add_act("form", layout.text(block, "Send"))
    style = layout.style(block)
    font = layout.font(style[0])
    return _put_runs(layout, [(layout.text(block, "Value"), style[2])], (style, font), across, y)


def _runs_of(layout, block, color):
    """The list of the runs of a Text, tuples (data, colour)."""
    held = layout.key(block, "Runs")
    if held[0] != "list":
        return [(layout.text(block, "Text"), color)]
    runs = []
    for item in layout.reached_list(held):
        if item[0] == "text":
            runs.append((item[1], color))
        elif item[0] == "dict":
            runs.append((layout.text(item, "Text"), layout.colour(item, "Color", color)))
            link = layout.key(item, "Link")
            if link[0] == "text":
                layout.add_act("link", link[1])
    return runs


def _words_of(layout, runs):
    """The words of all runs, which are lists of tuples (rune, colour)."""
    words = [[]]
    for data, color in runs:
        found = runes(list(data))
        layout.cost(1 + len(found))
        for rune in found:
            if rune == _SPACE:
                words.append([])
            else:
                words[-1].append((rune, color))
    return [word for word in words if word]


def _advance_of(font, rune, size):
    return max(advance(font, lookup(font, rune)) * size // 4, 0)


def _put_runs(layout, runs, styled, across, y):
    """The tuple (marks, end) of some runs; styled is the tuple of their style and its font."""
    (_, size, _, back, align, indent, gap), font = styled
    words = _words_of(layout, runs)
    advances = [[_advance_of(font, rune, size) for rune, _ in word] for word in words]
    x = across[0] + 4 * indent
    width = max(across[1] - x, 1)
    lines = break_lines(advances, _advance_of(font, _SPACE, size), width)
    end = y + 6 * size * len(lines)
    marks = []
    if back != _NO_BACK and lines:
        marks.append(plate(layout.page_box, (across[0], y, across[1], end), back))
    for at, (places, line_end) in enumerate(lines):
        begin = x + moved_right(align, width - line_end)
        for word, rune_at, place in places:
            rune, color = words[word][rune_at]
            outlines = scale(layout.rune_outlines(font, rune), size, 4)
            if outlines:
                moved = move(outlines, begin + place, y + 6 * size * at)
                marks.append(("fill", layout.page_box, moved, color))
    return marks, end + gap
