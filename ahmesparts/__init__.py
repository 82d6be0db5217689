"""Fractions as sums of parts."""
