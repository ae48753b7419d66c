"""The glyphs of fonts and their steps (points 81, 85 and 86)."""

from stillroom.checks import is_integer_from, is_tuple_of
from stillroom.fields import read_low_first, write_low_first

GREATEST_GLYPH = 65535
_MOST_STEPS = 1000

# The words of the steps; each one is written as its number, from 1 on.
_WORDS = ("move", "line", "curve", "use")
_USE = "use"

# How many bytes a step has behind its number.
_SIZES = (2, 2, 4, 4)


def is_glyph(value):
    """True if the value, of any kind, is a glyph."""
    if not is_tuple_of(value, 2) or not _is_coordinate(value[0]):
        return False
    steps = value[1]
    if not isinstance(steps, tuple) or len(steps) > _MOST_STEPS:
        return False
    return all([_is_step(step) for step in steps])


def _is_coordinate(value):
    return is_integer_from(value, -128, 127)


def _is_step(value):
    if not isinstance(value, tuple) or len(value) == 0 or value[0] not in _WORDS:
        return False
    if value[0] == _USE:
        right = len(value) == 4 and is_integer_from(value[1], 0, GREATEST_GLYPH)
        return right and all([_is_coordinate(part) for part in value[2:]])
    size = _SIZES[_WORDS.index(value[0])]
    return len(value) == 1 + size and all([_is_coordinate(part) for part in value[1:]])


def write_glyph(glyph):
    """The byte list of a glyph."""
    advance, steps = glyph
    found = [advance & 255]
    for step in steps:
        found.append(_WORDS.index(step[0]) + 1)
        coordinates = step[1:]
        if step[0] == _USE:
            found.extend(write_low_first(step[1], 2))
            coordinates = step[2:]
        found.extend([coordinate & 255 for coordinate in coordinates])
    return found


def read_glyph(data):
    """The glyph of a byte list."""
    if len(data) == 0:
        return 0, ()
    steps = []
    at = 1
    while at < len(data) and len(steps) < _MOST_STEPS:
        number = data[at]
        at += 1
        if 1 <= number <= len(_WORDS):
            end = at + _SIZES[number - 1]
            if end <= len(data):
                steps.append(_read_step(_WORDS[number - 1], data[at:end]))
            at = end
    return _signed(data[0]), tuple(steps)


def _read_step(word, data):
    if word == _USE:
        return word, read_low_first(data[:2]), _signed(data[2]), _signed(data[3])
    return tuple([word] + [_signed(byte) for byte in data])


def _signed(byte):
    return byte if byte < 128 else byte - 256
