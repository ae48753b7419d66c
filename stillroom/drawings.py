"""The block Drawing and its shapes (points 139 and 140)."""

from stillroom.filling import curve
from stillroom.looking import word_of
from stillroom.outlines import move, scale
from stillroom.styles import number_of

_SIDES = (1, 64)
_SCALES = (1, 64)
_FARTHEST = 1048576
_PLACES = (-1048576, 1048576)
_MOST_LEVELS = 8

# The names in a path, and how many coordinates stand behind them.
_NAMES = ("M", "L", "Q")
_COORDINATES = {"M": 2, "L": 2, "Q": 4}


def lay_drawing(layout, block, across, y):
    """The tuple (marks, end) of a Drawing that begins at the height y."""
    x = across[0]
    width = 4 * layout.number(block, "Width", _SIDES, 8)
    height = 4 * layout.number(block, "Height", _SIDES, 8)
    _, _, right, bottom = layout.page_box
    clip = (min(x, right), min(y, bottom), min(x + width, right), min(y + height, bottom))
    # The last change of all points: nothing is scaled by 4 / 4.
    around = (clip, 1, [(4, x, y)], [])
    return _marks_of_shapes(layout, layout.list_of(block, "Parts"), around), y + height


def _marks_of_shapes(layout, values, around):
    marks = []
    for value in values:
        marks.extend(_marks_of_shape(layout, value, around))
    return marks


def _marks_of_shape(layout, value, around):
    """The marks of a value, if it is a shape. around is the tuple (clip, level, changes,
    names): the changes of the points, tuples (scale, dx, dy), those of the innermost
    shape first, and the names by which this shape and those around it were used."""
    if value[0] != "dict":
        return []
    layout.cost(1)
    clip, level, changes, names = around
    if level > _MOST_LEVELS:
        return []
    changes = [_change_of(layout, value)] + changes
    marks = []
    outlines = _read_path(layout, layout.list_of(value, "Path"))
    if outlines:
        marks.append(("fill", clip, _changed(outlines, changes), layout.colour(value, "Color", 0)))
    name = layout.name(value, "Use")
    if name and name not in names:
        used = layout.named(layout.key(layout.root, "Shapes"), name)
        marks.extend(_marks_of_shape(layout, used, (clip, level + 1, changes, names + [name])))
    inner = layout.list_of(value, "Parts")
    return marks + _marks_of_shapes(layout, inner, (clip, level + 1, changes, names))


def _change_of(layout, value):
    n = layout.number(value, "Scale", _SCALES, 4)
    return n, layout.number(value, "Dx", _PLACES, 0), layout.number(value, "Dy", _PLACES, 0)


def _changed(outlines, changes):
    for n, dx, dy in changes:
        outlines = move(scale(outlines, n, 4), dx, dy)
    return outlines


def _read_path(layout, values):
    """The outlines of the items of a path."""
    outlines = []
    at = 0
    while at < len(values):
        word = word_of(values[at], _NAMES)
        at += 1
        if word == "M" or (word != "" and outlines):
            end = at + _COORDINATES[word]
            numbers = [number_of(value, -_FARTHEST, _FARTHEST, None) for value in values[at:end]]
            if end > len(values) or None in numbers:
                break
            at = end
            if word == "M":
                outlines.append([])
            points = _points(word, outlines[-1], numbers)
            layout.cost(len(points))
            outlines[-1].extend(points)
    return tuple([tuple(points) for points in outlines])


def _points(word, before, numbers):
    """The points that the numbers behind a name bring to an outline."""
    if word == "Q":
        return curve(before[-1], tuple(numbers[:2]), tuple(numbers[2:]))
    return [tuple(numbers)]
