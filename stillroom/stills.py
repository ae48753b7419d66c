"""Stills: the one strict form of what is seen (points 170 and 171)."""

from stillroom.characters import codes
from stillroom.digits import hex_digit
from stillroom.errors import Malformed
from stillroom.fields import cut, stands
from stillroom.grid import NO_COLOUR, is_grid, is_side
from stillroom.scanning import read_digits
from stillroom.signs import STILL_SIGN
from stillroom.sums import digest

MOST_PAGES = 8

_NEWLINE = 10
_SPACE = 32

# The lines of the head, and where the first page begins.
_COUNT_LINE = 1
_FIRST_PAGE = 2


def write_still(pages):
    """The byte list of a list of pages. Raises Malformed if it is none."""
    if len(pages) > MOST_PAGES or not all([_is_page(page) for page in pages]):
        raise Malformed("not at most eight grids without a cell that is none")
    found = list(STILL_SIGN) + codes(f"pages {len(pages)}\n")
    for width, height, cells in pages:
        found.extend(codes(f"page {width} {height}\n"))
        for at in range(0, len(cells), width):
            found.extend(_written_row(cells[at:at + width]) + [_NEWLINE])
    return found + codes(f"end {digest(found)}\n")


def _is_page(value):
    return is_grid(value) and NO_COLOUR not in value[2]


def _written_row(cells):
    """The bytes of the words of a row."""
    words = []
    at = 0
    while at < len(cells):
        end = at
        while end < len(cells) and cells[end] == cells[at]:
            end += 1
        words.append(f"{end - at}x{cells[at]:06x}")
        at = end
    return codes(" ".join(words))


def read_still(data):
    """The list of the pages of a still. Raises Malformed if the byte list is none."""
    if not stands(data, 0, STILL_SIGN):
        raise Malformed("a still begins in another way")
    pages = _read_pages(cut(data, _NEWLINE))
    # Each list of pages has one still: so whatever else is wrong shows here.
    if write_still(pages) != data:
        raise Malformed("not what is written")
    return pages


def _read_pages(lines):
    """The list of the pages in the lines of what may be a still. Raises Malformed if it is
    seen at once that it is none."""
    count = _read_head(lines[_COUNT_LINE], "pages ", 1)[0]
    if count > MOST_PAGES:
        raise Malformed("more than eight pages")
    pages = []
    at = _FIRST_PAGE
    while len(pages) < count:
        if at >= len(lines):
            raise Malformed("a page is missing")
        width, height = _read_head(lines[at], "page ", 2)
        if not is_side(width) or not is_side(height):
            raise Malformed("a side is not from 1 to 64")
        cells = []
        for line in lines[at + 1:at + 1 + height]:
            cells.extend(_read_row(line, width))
        pages.append((width, height, cells))
        at += 1 + height
    return pages


def _read_head(line, word, count):
    """The list of so many numbers behind the word of a line. Raises Malformed if it has
    another form; words that are no numbers show when the still is written."""
    words = cut(line[len(word):], _SPACE)
    if line[:len(word)] != codes(word) or len(words) != count:
        raise Malformed("a line of the head begins in another way")
    return [read_digits(found, 0)[0] for found in words]


def _read_row(line, width):
    """The cells of a row, or more than the width if there are too many."""
    cells = []
    for word in cut(line, _SPACE):
        many, end = read_digits(word, 0)
        if len(cells) <= width:
            cells.extend([_read_colour(word[end + 1:])] * min(many, width + 1))
    return cells


def _read_colour(digits):
    """The colour of six hexadecimal digits; what is none shows when the still is written."""
    colour = 0
    for digit in digits[:6]:
        colour = colour * 16 + max(hex_digit(digit), 0)
    return colour
