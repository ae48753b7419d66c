"""Fonts: glyphs and their outlines (points 81 to 83 and 85 to 87)."""

from stillroom.checks import is_integer_from, is_tuple_of
from stillroom.errors import Malformed
from stillroom.fields import read_low_first, stands, write_low_first
from stillroom.filling import curve
from stillroom.glyphs import GREATEST_GLYPH, is_glyph, read_glyph, write_glyph
from stillroom.measure import spend
from stillroom.outlines import move
from stillroom.runes import GREATEST_RUNE

# "FNT1" and a newline.
_SIGN = (70, 78, 84, 49, 10)
_RANGE_SIZE = 8
_MOST_RANGES = 255
_MOST_GLYPHS = 256

# How many glyphs may be made around one that still uses another one.
_MOST_AROUND = 4


def is_font(value):
    """True if the value, of any kind, is a font."""
    if not is_tuple_of(value, 2):
        return False
    glyphs, ranges = value
    if not isinstance(glyphs, tuple) or not 1 <= len(glyphs) <= _MOST_GLYPHS:
        return False
    if not isinstance(ranges, tuple) or len(ranges) > _MOST_RANGES:
        return False
    return all([_is_range(part) for part in ranges]) and all([is_glyph(glyph) for glyph in glyphs])


def _is_range(value):
    if not is_tuple_of(value, 3) or not is_integer_from(value[2], 0, GREATEST_GLYPH):
        return False
    return all([is_integer_from(rune, 0, GREATEST_RUNE) for rune in value[:2]])


def read_font(data, left):
    """The tuple (font or None, left)."""
    if not stands(data, 0, _SIGN):
        return None, left
    left, enough = spend(left, len(data))
    if not enough:
        return None, left
    begin = len(_SIGN) + 1
    end = begin + _RANGE_SIZE * read_low_first(data[begin - 1:begin])
    glyphs = _read_glyphs(data, end)
    if len(glyphs) == 0:
        return None, left
    # There are glyphs, and so all ranges before them.
    ranges = [_read_range(data[at:at + _RANGE_SIZE]) for at in range(begin, end, _RANGE_SIZE)]
    return (glyphs, tuple(ranges)), left


def _read_range(data):
    first, last = [min(read_low_first(data[at:at + 3]), GREATEST_RUNE) for at in (0, 3)]
    return first, last, read_low_first(data[6:])


def _read_glyphs(data, at):
    """The tuple of the glyphs whose number stands at the place."""
    # If one of the two bytes is missing, no glyph can stand behind them, either.
    count = read_low_first(data[at:at + 2])
    glyphs = []
    at += 2
    while len(glyphs) < min(count, _MOST_GLYPHS) and at + 2 <= len(data):
        end = at + 2 + read_low_first(data[at:at + 2])
        glyphs.append(read_glyph(data[at + 2:end]))
        at = end
    return tuple(glyphs)


def write_font(font):
    """The byte list of a font. Raises Malformed if it is none."""
    if not is_font(font):
        raise Malformed("not a font")
    glyphs, ranges = font
    found = list(_SIGN) + [len(ranges)]
    for first, last, glyph in ranges:
        found.extend(write_low_first(first, 3) + write_low_first(last, 3) + write_low_first(glyph, 2))
    found.extend(write_low_first(len(glyphs), 2))
    for glyph in glyphs:
        written = write_glyph(glyph)
        found.extend(write_low_first(len(written), 2) + written)
    return found


def plain_font():
    """The plain font."""
    glyphs = [(16, _closed(0, 0, 12, 20) + _closed(4, 4, 8, 16))]
    for number in range(1, 95):
        glyphs.append((16, _mark(number)))
    glyphs.append((8, ()))
    return tuple(glyphs), ((33, 126, 1), (32, 32, 95))


def _mark(number):
    """The steps of the mark for the rune number + 32."""
    steps = ()
    for k in range(7):
        if (number >> k) & 1 == 1:
            x, y = 4 * (k % 3), 4 * (k // 3)
            steps = steps + _closed(x, y, x + 4, y + 4)
    return steps


def _closed(x0, y0, x1, y1):
    """The steps of an outline with four corners."""
    return ("move", x0, y0), ("line", x1, y0), ("line", x1, y1), ("line", x0, y1)


def lookup(font, rune):
    """The index of the glyph of a rune."""
    glyphs, ranges = font
    for first, last, glyph in ranges:
        if first <= rune <= last:
            found = glyph + rune - first
            return found if found < len(glyphs) else 0
    return 0


def advance(font, glyph):
    """The advance of the glyph with this index; 0 if there is none."""
    glyphs = font[0]
    return glyphs[glyph][0] if 0 <= glyph < len(glyphs) else 0


def outline(font, glyph, left):
    """The tuple (outlines or None, left) of the glyph with this index."""
    return _outlines_of(font, glyph, [], left)


def _outlines_of(font, glyph, around, left):
    """The same; around has the indexes of the glyphs that are being made around this one."""
    glyphs = font[0]
    if not 0 <= glyph < len(glyphs):
        return (), left
    found = []
    begun = False
    for step in glyphs[glyph][1]:
        left, enough = spend(left, 1)
        if not enough:
            return None, left
        if step[0] == "use":
            begun = False
            used, left = _used(font, step, around + [glyph], left)
            if used is None:
                return None, left
            found.extend([list(points) for points in used])
        elif step[0] == "move":
            begun = True
            found.append([step[1:]])
        elif begun:
            found[-1].extend(_next_points(found[-1][-1], step))
    return tuple([tuple(points) for points in found]), left


def _next_points(last, step):
    """The points that a line or a curve adds behind the last point."""
    if step[0] == "line":
        return [step[1:]]
    return curve(last, step[1:3], step[3:])


def _used(font, step, around, left):
    """The tuple (outlines or None, left) of a step that uses a glyph; around ends with
    the glyph that has the step."""
    _, glyph, dx, dy = step
    if glyph in around or len(around) > _MOST_AROUND:
        return (), left
    made, left = _outlines_of(font, glyph, around, left)
    return (None if made is None else move(made, dx, dy)), left
